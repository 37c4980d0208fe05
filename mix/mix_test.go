package mix_test

import (
	"math"
	"strings"
	"testing"

	"lumberroom/api"
	"lumberroom/mix"
)

// words have their bits at the edges of what Step shifts, and all over.
func words() []uint64 {
	l := []uint64{0, math.MaxUint64, 0x0123456789abcdef, 0xfedcba9876543210}
	for i := range 64 {
		p := uint64(1) << i
		l = append(l, p, p-1, ^p)
	}
	return l
}

func TestStep(t *testing.T) {
	for _, c := range []struct{ x, block, want uint64 }{
		{0, 0, 0},
		{1, 0, 0xca009717f87d8879},
		{0, 1, 0xca009717f87d8879},
		{1, 1, 0},
		{7, 9, 0x85aa464423646bfd},
		{9, 7, 0x85aa464423646bfd},
		{1 << 63, 0, 0xf39396e4f39396e4},
		{0xdeadbeef, 0x636261, 0xaf700f7972acb3a2},
		{0x0123456789abcdef, 0xfedcba9876543210, 0xa68094cce9e291eb},
		{math.MaxUint64, 0, 0xa68094cce9e291eb},
		{0, math.MaxUint64, 0xa68094cce9e291eb},
		{math.MaxUint64, math.MaxUint64, 0},
	} {
		if y := mix.Step(c.x, c.block); y != c.want {
			t.Errorf("Step(%x, %x) = %016x, want %016x", c.x, c.block, y, c.want)
		}
		if x := mix.Undo(c.want, c.block); x != c.x {
			t.Errorf("Undo(%016x, %x) = %x, want %x", c.want, c.block, x, c.x)
		}
	}
}

func TestUndoAndStepUndoEachOther(t *testing.T) {
	for _, n := range words() {
		for _, block := range words() {
			if x := mix.Undo(mix.Step(n, block), block); x != n {
				t.Errorf("Undo of Step(%x, %x) = %x", n, block, x)
			}
			if y := mix.Step(mix.Undo(n, block), block); y != n {
				t.Errorf("Step of Undo(%x, %x) = %x", n, block, y)
			}
		}
	}
}

// sums are those of texts whose lengths lie around whole blocks.
var sums = []struct {
	s    string
	want uint64
}{
	{"", 0},
	{"\x00", 0xca009717f87d8879},
	{"\x00\x00\x00\x00\x00\x00\x00", 0x6328ff6ba7dc5b6b},
	{"\x00\x00\x00\x00\x00\x00\x00\x00", 0xeed1f595b0fab6ea},
	{"\x00\x00\x00\x00\x00\x00\x00\x00\x00", 0x558da6f3e4aa5c95},
	{"a", 0x41a65b350dbbe742},
	{"abc", 0x5d159632761be424},
	{"abc\x00", 0xd51b207875654829},
	{"\x00abc", 0x2f926432a3dfbd06},
	{"\xc3\xa9\x80\xfe", 0x8d8eb42d8b75ba96},
	{"1234567", 0x601a963ee9de9bdb},
	{"12345678", 0xf3a6a30016794d18},
	{"123456789", 0x56f346dbaf5094b2},
	{"\xff\xff\xff\xff\xff\xff\xff\xff", 0xf335a2d90de6f45b},
	{"0123456789abcdef", 0xb51990c8e7ce53ba},
	{"0123456789abcdefg", 0x451c43d9715be120},
	{strings.Repeat("a", 4096), 0x69c42b69aa24dee0},
}

func TestSum(t *testing.T) {
	for _, c := range sums {
		if n := mix.Sum(c.s); n != c.want {
			t.Errorf("Sum(%.20q) = %016x, want %016x", c.s, n, c.want)
		}
		if n, err := mix.Narrow(64, c.s); n != c.want || err != api.OK {
			t.Errorf("Narrow(64, %.20q) = %016x, %v, want %016x", c.s, n, err, c.want)
		}
	}
}

// Texts of one length that are unlike in one block only have unlike Sums: here
// each byte of a text, at every place, is changed to each other one.
func TestSumsOfTextsUnlikeInOneBlock(t *testing.T) {
	for _, s := range []string{"a", "abcdefg", "abcdefgh", "abcdefghi", strings.Repeat("\x00", 24), strings.Repeat("\xff", 27)} {
		for at := range len(s) {
			seen := map[uint64]int{}
			for c := range 256 {
				other := []byte(s)
				other[at] = byte(c)
				n := mix.Sum(string(other))
				if first, there := seen[n]; there {
					t.Errorf("%.30q has one Sum with the bytes %d and %d at %d", s, first, c, at)
				}
				seen[n] = c
			}
		}
	}
}

func TestNarrow(t *testing.T) {
	for _, c := range []struct {
		w    int
		s    string
		want uint64
	}{
		{1, "", 0},
		{1, "\x00", 1},
		{1, "abc", 0},
		{1, "12345678", 1},
		{1, "0123456789abcdefg", 0},
		{2, "abc", 0},
		{2, "0123456789abcdefg", 3},
		{7, "abc", 0x08},
		{7, "0123456789abcdefg", 0x1a},
		{8, "", 0},
		{8, "abc", 0xd8},
		{8, "12345678", 0x99},
		{8, "0123456789abcdefg", 0x03},
		{9, "abc", 0x0a3},
		{9, "0123456789abcdefg", 0x182},
		{29, "12345678", 0x0a8ef454},
		{29, "0123456789abcdefg", 0x102f90ce},
		{32, "abc", 0xf54ef09d},
		{32, "0123456789abcdefg", 0xf64980a9},
		{33, "12345678", 0x161cc81d7},
		{33, "0123456789abcdefg", 0x139315c14},
		{63, "", 0},
		{63, "abc", 0x5d159632761be424},
		{63, "0123456789abcdefg", 0x27ae4c97f6c8698d},
		{64, "", 0},
		{64, "0123456789abcdefg", 0x451c43d9715be120},
	} {
		if n, err := mix.Narrow(c.w, c.s); n != c.want || err != api.OK {
			t.Errorf("Narrow(%d, %q) = %x, %v, want %x", c.w, c.s, n, err, c.want)
		}
	}
}

// The bits are cut off behind each Step, not at the end only.
func TestNarrowIsStepsWithFewBits(t *testing.T) {
	for w := 1; w <= 64; w++ {
		kept := uint64(1)<<w - 1
		x := mix.Step(0, 0x3837363534333231) & kept
		x = mix.Step(x, 0x6261) & kept
		want := mix.Step(x, 10) & kept
		if n, err := mix.Narrow(w, "12345678ab"); n != want || err != api.OK {
			t.Errorf("Narrow(%d) = %x, %v, want %x", w, n, err, want)
		}
	}
}

func TestNarrowRefuses(t *testing.T) {
	for _, w := range []int{math.MinInt, -64, -1, 0, 65, 66, 128, 1 << 32, 1<<32 + 1, math.MaxInt} {
		for _, s := range []string{"", "abc", strings.Repeat("a", 100)} {
			if n, err := mix.Narrow(w, s); n != 0 || err != api.ErrArg {
				t.Errorf("Narrow(%d, %.20q) = %x, %v, want 0, %v", w, s, n, err, api.ErrArg)
			}
		}
	}
}

func TestID(t *testing.T) {
	for _, c := range []struct {
		s    string
		want api.ID
	}{
		{"", api.ID{}},
		{"\x00", api.ID{0xca, 0x00, 0x97, 0x17, 0xf8, 0x7d, 0x88, 0x79}},
		{"abc", api.ID{0x5d, 0x15, 0x96, 0x32, 0x76, 0x1b, 0xe4, 0x24}},
		{"12345678", api.ID{0xf3, 0xa6, 0xa3, 0x00, 0x16, 0x79, 0x4d, 0x18}},
		{"0123456789abcdefg", api.ID{0x45, 0x1c, 0x43, 0xd9, 0x71, 0x5b, 0xe1, 0x20}},
	} {
		if id := mix.ID(c.s); id != c.want {
			t.Errorf("ID(%q) = %x, want %x", c.s, id, c.want)
		}
	}
}
