package shield_test

import (
	"math"
	"slices"
	"strings"
	"testing"

	"lumberroom/api"
	"lumberroom/shield"
)

// longProduct takes the remainder bit by bit, from the highest one down.
func longProduct(a, b byte) byte {
	n := 0
	for i := range 8 {
		n ^= int(b>>i&1) * int(a) << i
	}
	for i := 14; i >= 8; i-- {
		n ^= n >> i & 1 * 0x11d << (i - 8)
	}
	return byte(n)
}

// longInverse tries all numbers.
func longInverse(a byte) byte {
	for n := range 256 {
		if longProduct(a, byte(n)) == 1 {
			return byte(n)
		}
	}
	return 0
}

// slowGuard is guard j of parts as the promise tells it, place by place.
func slowGuard(parts []string, j int) string {
	var inverses [api.MaxParts]byte
	for i := range parts {
		inverses[i] = longInverse(byte(128+j) ^ byte(i))
	}
	guard := make([]byte, len(parts[0]))
	for at := range guard {
		for i, part := range parts {
			guard[at] ^= longProduct(part[at], inverses[i])
		}
	}
	return string(guard)
}

func slowGuards(parts []string, p int) []string {
	var all []string
	for j := range p {
		all = append(all, slowGuard(parts, j))
	}
	return all
}

// odd has n bytes that show no order.
func odd(seed, n int) string {
	l := make([]byte, n)
	x := uint32(seed)*2654435761 + 1
	for i := range l {
		x = x*1664525 + 1013904223
		l[i] = byte(x >> 24)
	}
	return string(l)
}

// oddParts are n parts of so many bytes.
func oddParts(seed, n, size int) []string {
	var all []string
	for i := range n {
		all = append(all, odd(seed*100+i, size))
	}
	return all
}

// sized are texts of these lengths.
func sized(lengths ...int) []string {
	var all []string
	for _, n := range lengths {
		all = append(all, strings.Repeat("x", n))
	}
	return all
}

func zeros(n int) []string {
	return slices.Repeat([]string{"\x00"}, n)
}

var guarded = []struct{ parts, guards []string }{
	{[]string{"\x01"}, []string{"\x1b"}},
	{[]string{"\x01"}, []string{"\x1b", "\x54", "\xa1", "\x1d", "\x7c", "\xcc", "\xe4", "\xb0"}},
	{[]string{"\x80\x00\xff"}, []string{"\x01\x00\xfc"}},
	{[]string{"hello world"}, []string{"\x11\xbe\x7d\x7d\x50\x47\x25\x50\x52\x7d\xa5", "\x6c\xef\x21\x21\xdd\x52\x6e\xdd\x77\x21\xbb"}},
	{[]string{"ab", "cd"}, []string{"\xd8\x44"}},
	{[]string{"aa", "aa"}, []string{"\x70\x70", "\x70\x70"}},
	{[]string{"abc", "def", "ghi"}, []string{"\x9f\xc7\x81", "\xc0\x9c\xf8"}},
	{[]string{""}, []string{""}},
	{[]string{"", ""}, []string{"", "", ""}},
	{zeros(5), zeros(2)},
	{append(zeros(15), "\x01"), []string{"\xf5", "\x02", "\x69", "\x53", "\x2d", "\x27", "\x31", "\x49"}},
	{
		strings.Split("\x00\x01\x02\x03\x04\x05\x06\x07\x08\x09\x0a\x0b\x0c\x0d\x0e\x0f", ""),
		[]string{"\xaa", "\x02", "\xe7", "\x4f", "\x30", "\x98", "\x7d", "\xd5"},
	},
	{
		[]string{
			"\xff\x00", "\xfe\x10", "\xfd\x20", "\xfc\x30", "\xfb\x40", "\xfa\x50", "\xf9\x60", "\xf8\x70",
			"\xf7\x80", "\xf6\x90", "\xf5\xa0", "\xf4\xb0", "\xf3\xc0", "\xf2\xd0", "\xf1\xe0", "\xf0\xf0",
		},
		[]string{"\xf5\x72", "\x5d\x20", "\xb8\xd6", "\x10\x84", "\x6f\x27", "\xc7\x75", "\x22\x83", "\x8a\xd1"},
	},
}

func TestGuard(t *testing.T) {
	for _, c := range guarded {
		if l, err := shield.Guard(c.parts, len(c.guards)); !slices.Equal(l, c.guards) || err != api.OK {
			t.Errorf("Guard(%x, %d) = %x, %v, want %x", c.parts, len(c.guards), l, err, c.guards)
		}
	}
}

// One part's guard is the part times the inverse of 128, whatever its bytes are.
func TestGuardOfOnePart(t *testing.T) {
	for b := range 256 {
		l, err := shield.Guard([]string{string([]byte{byte(b)})}, 1)
		if err != api.OK || len(l) != 1 || len(l[0]) != 1 || longProduct(l[0][0], 128) != byte(b) {
			t.Errorf("the guard of %x is %x, %v", b, l, err)
		}
	}
}

func TestGuardsAreSumsOfTheParts(t *testing.T) {
	for n := 1; n <= api.MaxParts; n++ {
		for p := 1; p <= api.MaxGuards; p++ {
			for _, size := range []int{0, 1, 2, 9} {
				checkGuard(t, oddParts(n+p, n, size), p)
			}
		}
	}
	checkGuard(t, oddParts(1, 2, api.MaxFile), 1)
	checkGuard(t, oddParts(2, api.MaxParts, api.MaxFile), api.MaxGuards)
}

func checkGuard(t *testing.T, parts []string, p int) {
	t.Helper()
	want := slowGuards(parts, p)
	if l, err := shield.Guard(parts, p); !slices.Equal(l, want) || err != api.OK {
		t.Errorf("Guard(%.20x, %d) = %.20x, %v, want %.20x", parts, p, l, err, want)
	}
}

var unguarded = []struct {
	parts []string
	p     int
	want  api.Errno
}{
	{nil, 1, api.ErrArg},
	{[]string{}, 1, api.ErrArg},
	{nil, 0, api.ErrArg},
	{sized(make([]int, 17)...), 1, api.ErrArg},
	{sized(make([]int, 300)...), 8, api.ErrArg},
	{sized(1), 0, api.ErrArg},
	{sized(1), -1, api.ErrArg},
	{sized(1), 9, api.ErrArg},
	{sized(1), 256, api.ErrArg},
	{sized(1), math.MinInt, api.ErrArg},
	{sized(1), math.MaxInt, api.ErrArg},
	{sized(1, 2), 0, api.ErrArg},
	{sized(4097), 9, api.ErrArg},
	{sized(append(make([]int, 16), 4097)...), 1, api.ErrArg},
	{sized(4097), 1, api.ErrLarge},
	{sized(4097, 4097), 8, api.ErrLarge},
	{sized(4097, 1), 1, api.ErrLarge},
	{sized(1<<16, 1, 2), 1, api.ErrLarge},
	{sized(1, 4097), 1, api.ErrLarge},
	{sized(4096, 4097), 1, api.ErrLarge},
	{sized(4096, 4096, 4097, 1), 1, api.ErrLarge},
	{sized(append(make([]int, 15), 4097)...), 8, api.ErrLarge},
	{sized(1, 2), 1, api.ErrForm},
	{sized(2, 1), 1, api.ErrForm},
	{sized(0, 1), 1, api.ErrForm},
	{sized(1, 0), 1, api.ErrForm},
	{sized(4096, 4095), 1, api.ErrForm},
	{sized(4095, 4096), 1, api.ErrForm},
	{sized(1, 1, 2, 1), 8, api.ErrForm},
	{sized(1, 2, 2), 8, api.ErrForm},
	{sized(1, 2, 4097), 1, api.ErrForm},
	{sized(append(make([]int, 15), 1)...), 8, api.ErrForm},
}

func TestGuardRefuses(t *testing.T) {
	for i, c := range unguarded {
		if l, err := shield.Guard(c.parts, c.p); l != nil || err != c.want {
			t.Errorf("case %d, %d parts, %d guards: %d guards, %v, want %v alone", i, len(c.parts), c.p, len(l), err, c.want)
		}
	}
}

func TestGuardTakesAllThatIsWithinItsBounds(t *testing.T) {
	for n := range 20 {
		for p := -2; p < 12; p++ {
			want := api.OK
			if n < 1 || n > 16 || p < 1 || p > 8 {
				want = api.ErrArg
			}
			if l, err := shield.Guard(oddParts(1, n, 3), p); err != want || want == api.OK && len(l) != p {
				t.Errorf("%d parts, %d guards: %d guards, %v, want %v", n, p, len(l), err, want)
			}
		}
	}
}
