package roll_test

import (
	"math"
	"strings"
	"testing"

	"lumberroom/api"
	"lumberroom/roll"
)

// words have their bits at the edges of what is folded, and all over.
func words() []uint32 {
	l := []uint32{0, math.MaxUint32, 0x12345678, 0x9abcdef0, 0xdeadbeef, 1<<31 | 1<<3 | 1}
	for i := range 32 {
		p := uint32(1) << i
		l = append(l, p, p-1, ^p)
	}
	return l
}

// longProduct takes the remainder bit by bit, from the highest one down.
func longProduct(a, b uint32) uint32 {
	var bits [63]uint32
	for i := range 32 {
		for j := range 32 {
			bits[i+j] ^= a >> i & 1 & (b >> j & 1)
		}
	}
	for i := 62; i >= 31; i-- {
		bits[i-31+3] ^= bits[i]
		bits[i-31] ^= bits[i]
	}
	var n uint32
	for i := range 31 {
		n |= bits[i] << i
	}
	return n
}

func TestTimes(t *testing.T) {
	for _, c := range []struct{ a, b, want uint32 }{
		{0, 0, 0},
		{0, 0xffffffff, 0},
		{1, 1, 1},
		{3, 3, 5},
		{3, 5, 0xf},
		{0xff, 0xff, 0x5555},
		{1, 0x7fffffff, 0x7fffffff},
		{1, 0x80000000, 9},
		{1, 0xffffffff, 0x7ffffff6},
		{2, 0x40000000, 9},
		{2, 0x80000000, 0x12},
		{0x10000, 0x8000, 9},
		{0x10000, 0x10000, 0x12},
		{0x100000, 0x800, 9},
		{0x40000000, 0x40000000, 0x20000012},
		{0x80000000, 0x80000000, 0x41},
		{0x80000009, 0x12345678, 0},
		{0x7fffffff, 0x7fffffff, 0x2aaaaabd},
		{0xffffffff, 0xffffffff, 0x2aaaaafc},
		{0x12345678, 0x9abcdef0, 0x45beaee1},
		{0xdeadbeef, 0xcafebabe, 0x76b99735},
	} {
		if n := roll.Times(c.a, c.b); n != c.want {
			t.Errorf("Times(%x, %x) = %x, want %x", c.a, c.b, n, c.want)
		}
		if n := roll.Times(c.b, c.a); n != c.want {
			t.Errorf("Times(%x, %x) = %x, want %x", c.b, c.a, n, c.want)
		}
	}
}

func TestTimesIsTheRemainderOfTheProduct(t *testing.T) {
	for _, a := range words() {
		for _, b := range words() {
			if n, want := roll.Times(a, b), longProduct(a, b); n != want {
				t.Errorf("Times(%x, %x) = %x, want %x", a, b, n, want)
			}
		}
	}
}

// sums are those of texts whose lengths lie around four bytes, which a sum
// holds nearly as they are, and around the window.
var sums = []struct {
	s    string
	want uint32
}{
	{"", 0},
	{"\x00", 0},
	{strings.Repeat("\x00", 16), 0},
	{"a", 0x61},
	{"ab", 0x6162},
	{"ba", 0x6261},
	{"abc", 0x616263},
	{"abcd", 0x61626364},
	{"\x7f\xff\xff\xff", 0x7fffffff},
	{"\x80\x00\x00\x00", 9},
	{"\xff\xff\xff\xff", 0x7ffffff6},
	{"\x80\x00\x00\x09", 0},
	{"\xc3\xa9\x80\xfe", 0x43a980f7},
	{"abcde", 0x626362b7},
	{"\x00\x00abcde", 0x626362b7},
	{"abcde\x00", 0x6362b1e4},
	{"0123456789abcde", 0x6989e020},
	{"0123456789abcdef", 0x09e0262d},
	{"0123456789abcdefg", 0x60162eec},
	{"X0123456789abcdef", 0x09e0262d},
	{"\x01" + strings.Repeat("\x00", 15), 0x48000104},
	{"\x80" + strings.Repeat("\x00", 15), 0x8008},
	{"\x01" + strings.Repeat("\x00", 16), 0},
	{strings.Repeat("\xff", 15), 0x47ffff04},
	{strings.Repeat("\xff", 16), 0x7fff0008},
	{strings.Repeat("\xff", 17), 0x7fff0008},
	{"some twenty bytes and more", 0x4a4b85d8},
}

func TestOf(t *testing.T) {
	for _, c := range sums {
		if n := roll.Of(c.s); n != c.want {
			t.Errorf("Of(%q) = %x, want %x", c.s, n, c.want)
		}
	}
}

// Each byte stands with its own power of x^8, wherever it is in the window.
func TestOfIsTheSumOfItsBytes(t *testing.T) {
	for k := range api.Window {
		power := uint32(1)
		for range k {
			power = longProduct(power, 1<<8)
		}
		for b := range 256 {
			s := string([]byte{byte(b)}) + strings.Repeat("\x00", k)
			if n, want := roll.Of(s), longProduct(uint32(b), power); n != want {
				t.Errorf("Of(%q) = %x, want %x", s, n, want)
			}
		}
	}
}

func TestOfSeesTheWindowOnly(t *testing.T) {
	const s = "0123456789abcdef"
	for _, ahead := range []string{"\x00", "a", "\xff", "0123456789abcdef", strings.Repeat("ahead", 1000)} {
		if roll.Of(ahead+s) != roll.Of(s) {
			t.Errorf("%.20q ahead of the window is to be seen in the sum", ahead)
		}
	}
}

func TestPush(t *testing.T) {
	for _, c := range []struct {
		r    api.Roll
		b    byte
		want api.Roll
	}{
		{api.Roll{}, 0, api.Roll{At: 1}},
		{api.Roll{}, 0x61, api.Roll{Win: [16]byte{0x61}, At: 1, Sum: 0x61}},
		{api.Roll{At: 14}, 0xff, api.Roll{Win: [16]byte{14: 0xff}, At: 15, Sum: 0xff}},
		{api.Roll{At: 15}, 0xff, api.Roll{Win: [16]byte{15: 0xff}, Sum: 0xff}},
		{api.Roll{At: 5, Sum: 0x7fffffff}, 0, api.Roll{At: 6, Sum: 0x7ffff807}},
		{api.Roll{At: 5, Sum: 0x7fffffff}, 0x80, api.Roll{Win: [16]byte{5: 0x80}, At: 6, Sum: 0x7ffff887}},
		{api.Roll{At: 5, Sum: 1 << 23}, 1, api.Roll{Win: [16]byte{5: 1}, At: 6, Sum: 8}},
		{api.Roll{Win: [16]byte{1}}, 0, api.Roll{At: 1, Sum: 0x10010}},
		{api.Roll{Win: [16]byte{15: 0xff}, At: 15, Sum: 0x12345678}, 0x9a, api.Roll{Win: [16]byte{15: 0x9a}, Sum: 0x34a9766e}},
		{
			api.Roll{Win: [16]byte{1, 2, 3, 4, 5, 6, 7, 8, 9, 10, 11, 12, 13, 14, 15, 16}, At: 7, Sum: 0x2bcdef01}, 0x63,
			api.Roll{Win: [16]byte{1, 2, 3, 4, 5, 6, 7, 0x63, 9, 10, 11, 12, 13, 14, 15, 16}, At: 8, Sum: 0x4de7030c},
		},
	} {
		if r, err := roll.Push(c.r, c.b); r != c.want || err != api.OK {
			t.Errorf("Push(%x, %x) = %x, %v, want %x", c.r, c.b, r, err, c.want)
		}
	}
}

// A Roll need not have come from Push: its Sum is gone on with as it is.
func TestPushTakesTheOldestByteOut(t *testing.T) {
	const xTo120 = 0x48000104
	for at := range api.Window {
		for old := range 256 {
			r := api.Roll{At: at, Sum: 0x1234567}
			r.Win[at] = byte(old)
			want := api.Roll{At: (at + 1) % 16, Sum: longProduct(0x1234567^longProduct(uint32(old), xTo120), 1<<8) ^ 0x5a}
			want.Win[at] = 0x5a
			if got, err := roll.Push(r, 0x5a); got != want || err != api.OK {
				t.Errorf("Push(%x, 5a) = %x, %v, want %x", r, got, err, want)
			}
		}
	}
}

func TestPushRefuses(t *testing.T) {
	var full [16]byte
	for i := range full {
		full[i] = 0xff
	}
	for _, at := range []int{math.MinInt, -1 << 32, -16, -1, 16, 17, 1 << 8, 1 << 32, math.MaxInt} {
		for _, sum := range []uint32{0, 1, math.MaxInt32, 1 << 31, math.MaxUint32} {
			refuse(t, api.Roll{At: at, Sum: sum})
			refuse(t, api.Roll{Win: full, At: at, Sum: sum})
		}
	}
	for at := range api.Window {
		for _, sum := range []uint32{1 << 31, 1<<31 + 1, 1<<31 | 1<<30, 1<<31 | 1<<3 | 1, math.MaxUint32} {
			refuse(t, api.Roll{At: at, Sum: sum})
			refuse(t, api.Roll{Win: full, At: at, Sum: sum})
		}
	}
}

func refuse(t *testing.T, r api.Roll) {
	t.Helper()
	for _, b := range []byte{0, 1, 255} {
		if got, err := roll.Push(r, b); got != (api.Roll{}) || err != api.ErrArg {
			t.Errorf("Push(%x, %x) = %x, %v, want %v alone", r, b, got, err, api.ErrArg)
		}
	}
}
