package chunk_test

import (
	"math"
	"slices"
	"strings"
	"testing"

	"lumberroom/api"
	"lumberroom/chunk"
	"lumberroom/roll"
)

// odd makes n bytes that look like no text: the same ones for each seed.
func odd(seed, n int) string {
	b := make([]byte, n)
	for i := range b {
		seed = (seed*1103515245 + 12345) % (1 << 31)
		b[i] = byte(seed >> 16)
	}
	return string(b)
}

func zeros(n int) string { return strings.Repeat("\x00", n) }

func lengths(l []string) []int {
	var n []int
	for _, p := range l {
		n = append(n, len(p))
	}
	return n
}

func times(n, k int) []int { return slices.Repeat([]int{k}, n) }

// slowCut reads the rule as the document words it, with the whole piece summed
// anew at each byte; what is left is told apart.
func slowCut(c api.Cut, s string) ([]string, string) {
	var l []string
	from := 0
	for to := 1; to <= len(s); to++ {
		k := to - from
		if k == c.Max || k >= c.Min && roll.Of(s[from:to])%(1<<c.Bits) == 0 {
			l = append(l, s[from:to])
			from = to
		}
	}
	return l, s[from:]
}

func withLeft(l []string, left string) []string {
	if left == "" {
		return l
	}
	return append(slices.Clone(l), left)
}

var rightCuts = []api.Cut{
	{Min: 16, Max: 16, Bits: 1},
	{Min: 16, Max: 16, Bits: 12},
	{Min: 16, Max: 17, Bits: 1},
	{Min: 16, Max: 20, Bits: 12},
	{Min: 16, Max: 1024, Bits: 1},
	{Min: 16, Max: 64, Bits: 4},
	{Min: 20, Max: 100, Bits: 5},
	{Min: 32, Max: 200, Bits: 7},
	{Min: 100, Max: 101, Bits: 1},
	{Min: 1023, Max: 1024, Bits: 1},
	{Min: 1024, Max: 1024, Bits: 1},
	{Min: 1024, Max: 1024, Bits: 12},
}

var wrongCuts = []api.Cut{
	{},
	{Min: 15, Max: 20, Bits: 1},
	{Min: 15, Max: 15, Bits: 1},
	{Min: 0, Max: 1024, Bits: 6},
	{Min: -16, Max: 64, Bits: 6},
	{Min: math.MinInt, Max: 64, Bits: 6},
	{Min: 16, Max: 15, Bits: 1},
	{Min: 17, Max: 16, Bits: 1},
	{Min: 1024, Max: 1023, Bits: 12},
	{Min: 16, Max: -1, Bits: 1},
	{Min: 16, Max: math.MinInt, Bits: 1},
	{Min: 16, Max: 1025, Bits: 1},
	{Min: 1025, Max: 1025, Bits: 1},
	{Min: 1025, Max: 1024, Bits: 1},
	{Min: 16, Max: math.MaxInt, Bits: 1},
	{Min: math.MaxInt, Max: math.MaxInt, Bits: 1},
	{Min: 16, Max: 16, Bits: 0},
	{Min: 16, Max: 16, Bits: 13},
	{Min: 16, Max: 64, Bits: -1},
	{Min: 16, Max: 64, Bits: 32},
	{Min: 16, Max: 64, Bits: 64},
	{Min: 16, Max: 64, Bits: math.MinInt},
	{Min: 16, Max: 64, Bits: math.MaxInt},
	{Min: math.MinInt, Max: math.MaxInt, Bits: math.MaxInt},
}

func someTexts() []string {
	return []string{
		"", "a", zeros(15), zeros(16), zeros(17), zeros(33),
		"what was saved comes back as it was, to the byte, whatever else was saved",
		strings.Repeat("a", 50), odd(1, 300), odd(3, 1023), odd(4, 1024), odd(5, 1025),
		zeros(4096), odd(2, 4095), odd(2, 4096),
	}
}

func TestCheck(t *testing.T) {
	for _, c := range rightCuts {
		if err := chunk.Check(c); err != api.OK {
			t.Errorf("Check(%v) = %v", c, err)
		}
	}
	for _, c := range wrongCuts {
		if err := chunk.Check(c); err != api.ErrArg {
			t.Errorf("Check(%v) = %v, want %v", c, err, api.ErrArg)
		}
	}
}

func TestCheckAroundItsBounds(t *testing.T) {
	sizes := []int{-1, 0, 1, 14, 15, 16, 17, 18, 500, 1022, 1023, 1024, 1025, 1026}
	for _, small := range sizes {
		for _, large := range sizes {
			for bits := -2; bits <= 66; bits++ {
				want := api.ErrArg
				if 16 <= small && small <= large && large <= 1024 && 1 <= bits && bits <= 12 {
					want = api.OK
				}
				c := api.Cut{Min: small, Max: large, Bits: bits}
				if err := chunk.Check(c); err != want {
					t.Errorf("Check(%v) = %v, want %v", c, err, want)
				}
			}
		}
	}
}

func TestFixed(t *testing.T) {
	for _, c := range []struct {
		n    int
		s    string
		want []string
	}{
		{1, "", nil},
		{1024, "", nil},
		{1, "a", []string{"a"}},
		{1, "abc", []string{"a", "b", "c"}},
		{2, "a", []string{"a"}},
		{2, "ab", []string{"ab"}},
		{2, "abc", []string{"ab", "c"}},
		{2, "abcd", []string{"ab", "cd"}},
		{3, "\x00\xff\xc3\xa9\x80", []string{"\x00\xff\xc3", "\xa9\x80"}},
		{1024, "abc", []string{"abc"}},
		{1024, odd(1, 1024), []string{odd(1, 1024)}},
		{1024, zeros(1025), []string{zeros(1024), "\x00"}},
		{1023, zeros(1025), []string{zeros(1023), "\x00\x00"}},
		{1024, zeros(4096), []string{zeros(1024), zeros(1024), zeros(1024), zeros(1024)}},
		{1024, zeros(4095), []string{zeros(1024), zeros(1024), zeros(1024), zeros(1023)}},
	} {
		if l, err := chunk.Fixed(c.n, c.s); !slices.Equal(l, c.want) || err != api.OK {
			t.Errorf("Fixed(%d, %.20q) = %.80q, %v", c.n, c.s, l, err)
		}
	}
}

func TestFixedIsTheTextInPieces(t *testing.T) {
	for _, s := range someTexts() {
		for _, n := range []int{1, 2, 3, 15, 16, 17, 300, 1000, 1023, 1024} {
			l, err := chunk.Fixed(n, s)
			if err != api.OK || strings.Join(l, "") != s {
				t.Fatalf("Fixed(%d, %.20q): joined it is another text, %v", n, s, err)
			}
			want := times(len(s)/n, n)
			if len(s)%n != 0 {
				want = append(want, len(s)%n)
			}
			if !slices.Equal(lengths(l), want) {
				t.Errorf("Fixed(%d, %.20q): pieces of %v, want %v", n, s, lengths(l), want)
			}
		}
	}
}

func TestFixedRefuses(t *testing.T) {
	for _, n := range []int{math.MinInt, -1024, -1, 0, 1025, 4096, 1 << 32, math.MaxInt} {
		for _, s := range []string{"", "abc", zeros(4096), zeros(4097)} {
			if l, err := chunk.Fixed(n, s); l != nil || err != api.ErrArg {
				t.Errorf("Fixed(%d, %.20q) = %.20q, %v, want %v alone", n, s, l, err, api.ErrArg)
			}
		}
	}
	for _, n := range []int{1, 2, 1024} {
		for _, k := range []int{4097, 4098, 1 << 16} {
			if l, err := chunk.Fixed(n, zeros(k)); l != nil || err != api.ErrLarge {
				t.Errorf("Fixed(%d, %d bytes) = %.20q, %v, want %v alone", n, k, l, err, api.ErrLarge)
			}
		}
	}
}

// cuts are worked out apart from the program: the lengths of the pieces that
// end by the rule, and of what is left.
var cuts = []struct {
	c     api.Cut
	s     string
	ruled []int
	left  int
}{
	{api.Cut{Min: 16, Max: 16, Bits: 1}, "", nil, 0},
	{api.Cut{Min: 16, Max: 16, Bits: 1}, "a", nil, 1},
	{api.Cut{Min: 16, Max: 16, Bits: 1}, zeros(15), nil, 15},
	{api.Cut{Min: 16, Max: 16, Bits: 1}, zeros(16), times(1, 16), 0},
	{api.Cut{Min: 16, Max: 16, Bits: 12}, odd(1, 300), times(18, 16), 12},
	{api.Cut{Min: 16, Max: 16, Bits: 12}, odd(2, 4096), times(256, 16), 0},
	{api.Cut{Min: 1024, Max: 1024, Bits: 1}, odd(2, 1023), nil, 1023},
	{api.Cut{Min: 1024, Max: 1024, Bits: 12}, odd(2, 4096), times(4, 1024), 0},
	{api.Cut{Min: 16, Max: 1024, Bits: 1}, zeros(33), times(2, 16), 1},
	{api.Cut{Min: 16, Max: 20, Bits: 12}, zeros(33), times(2, 16), 1},
	{api.Cut{Min: 17, Max: 64, Bits: 1}, zeros(33), times(1, 17), 16},
	{api.Cut{Min: 20, Max: 64, Bits: 12}, zeros(60), times(3, 20), 0},
	{api.Cut{Min: 16, Max: 64, Bits: 2}, "\x01" + zeros(40), times(2, 16), 9},
	{api.Cut{Min: 16, Max: 64, Bits: 3}, "\x01" + zeros(40), []int{17, 16}, 8},
	{api.Cut{Min: 16, Max: 64, Bits: 2}, strings.Repeat("a", 50), times(3, 16), 2},
	{api.Cut{Min: 16, Max: 64, Bits: 3}, strings.Repeat("a", 50), nil, 50},
	{api.Cut{Min: 16, Max: 20, Bits: 12}, strings.Repeat("a", 50), times(2, 20), 10},
	{api.Cut{Min: 17, Max: 17, Bits: 1}, "0123456789abcdef0123456789abcdef!", times(1, 17), 16},
	{api.Cut{Min: 16, Max: 20, Bits: 1}, "0123456789abcdef0123456789abcdef!", times(1, 19), 14},
	{api.Cut{Min: 16, Max: 64, Bits: 2}, "0123456789abcdef0123456789abcdef!", times(1, 20), 13},
	{api.Cut{Min: 16, Max: 64, Bits: 3}, "0123456789abcdef0123456789abcdef!", nil, 33},
	{api.Cut{Min: 16, Max: 64, Bits: 1}, odd(1, 300), []int{16, 16, 20, 16, 16, 17, 18, 17, 17, 19, 16, 16, 17, 23, 16, 17, 16}, 7},
	{api.Cut{Min: 16, Max: 64, Bits: 3}, odd(1, 300), []int{19, 16, 23, 16, 23, 34, 36, 19, 16, 22, 35, 25}, 16},
	{api.Cut{Min: 16, Max: 64, Bits: 4}, odd(1, 300), []int{19, 16, 23, 16, 23, 34, 36, 19, 22, 16, 60}, 16},
	{api.Cut{Min: 20, Max: 100, Bits: 5}, odd(1, 300), []int{35, 23, 21, 52, 36, 41, 21, 55}, 16},
	{api.Cut{Min: 32, Max: 200, Bits: 7}, odd(1, 300), []int{58, 109, 62, 67}, 4},
	{api.Cut{Min: 100, Max: 101, Bits: 1}, odd(1, 300), []int{101, 100}, 99},
	{api.Cut{Min: 32, Max: 200, Bits: 7}, odd(2, 4096), []int{115, 78, 143, 186, 191, 117, 37, 64, 200, 34, 150, 200, 200, 36, 61, 200, 38, 104, 200, 55, 200, 113, 59, 34, 200, 108, 36, 68, 200, 67, 200, 53, 85, 200}, 64},
	{api.Cut{Min: 64, Max: 1024, Bits: 8}, odd(2, 4096), []int{115, 78, 738, 384, 497, 342, 598, 371, 104, 267, 551}, 51},
	{api.Cut{Min: 16, Max: 1024, Bits: 12}, odd(2, 4096), []int{1024, 1024, 704, 1024}, 320},
	{api.Cut{Min: 16, Max: 1024, Bits: 12}, odd(7, 1000), nil, 1000},
}

func TestCut(t *testing.T) {
	for _, c := range cuts {
		want := c.ruled
		if c.left > 0 {
			want = append(slices.Clone(want), c.left)
		}
		l, err := chunk.Cut(c.c, c.s)
		if err != api.OK || !slices.Equal(lengths(l), want) || strings.Join(l, "") != c.s {
			t.Errorf("Cut(%v, %.20q): pieces of %v, %v, want %v", c.c, c.s, lengths(l), err, want)
		}
	}
}

func TestCutKeepsToTheRule(t *testing.T) {
	for _, s := range someTexts() {
		for _, c := range rightCuts {
			l, err := chunk.Cut(c, s)
			if want := withLeft(slowCut(c, s)); err != api.OK || !slices.Equal(l, want) {
				t.Errorf("Cut(%v, %.20q): pieces of %v, %v, want %v", c, s, lengths(l), err, lengths(want))
			}
		}
	}
}

// The sum of these bytes behind zeros is one bit, so the bit above the lowest
// ones may be 1, and the highest one of them may not.
func TestCutAsksForAllLowestBits(t *testing.T) {
	for bits := 1; bits <= 12; bits++ {
		c := api.Cut{Min: 16, Max: 20, Bits: bits}
		for bit := range 16 {
			sum := 1 << bit
			s := zeros(14) + string([]byte{byte(sum >> 8), byte(sum)}) + "\x01"
			want := []int{17}
			if bit >= bits {
				want = []int{16, 1}
			}
			if l, err := chunk.Cut(c, s); err != api.OK || !slices.Equal(lengths(l), want) {
				t.Errorf("Cut(%v, %q): pieces of %v, %v, want %v", c, s, lengths(l), err, want)
			}
		}
	}
}

func TestCutIsTheSameBehindAnEnd(t *testing.T) {
	c := api.Cut{Min: 16, Max: 64, Bits: 4}
	tail := odd(9, 2000)
	want, _ := chunk.Cut(c, tail)
	for seed := range 20 {
		ruled, left, _ := chunk.Feed(c, "", odd(seed, 1500))
		ahead := odd(seed, 1500-len(left))
		l, err := chunk.Cut(c, ahead+tail)
		if err != api.OK || !slices.Equal(l, append(ruled, want...)) {
			t.Errorf("behind %d bytes: pieces of %v, %v", len(ahead), lengths(l), err)
		}
	}
}

func TestCutRefuses(t *testing.T) {
	for _, c := range wrongCuts {
		for _, s := range []string{"", "abc", odd(1, 300), zeros(4096), zeros(4097)} {
			if l, err := chunk.Cut(c, s); l != nil || err != api.ErrArg {
				t.Errorf("Cut(%v, %.20q) = %.20q, %v, want %v alone", c, s, l, err, api.ErrArg)
			}
		}
	}
	for _, c := range rightCuts {
		for _, n := range []int{4097, 4098, 1 << 16} {
			if l, err := chunk.Cut(c, zeros(n)); l != nil || err != api.ErrLarge {
				t.Errorf("Cut(%v, %d bytes) = %.20q, %v, want %v alone", c, n, l, err, api.ErrLarge)
			}
		}
	}
}

func TestFeed(t *testing.T) {
	for _, c := range cuts {
		for _, at := range []int{0, 1, 15, 16, 17, 300, 4095, 4096} {
			at = min(at, len(c.s))
			l, left, err := chunk.Feed(c.c, c.s[:at], c.s[at:])
			if err != api.OK || !slices.Equal(lengths(l), c.ruled) || len(left) != c.left || strings.Join(l, "")+left != c.s {
				t.Errorf("Feed(%v, %.20q): pieces of %v and %d, %v, want %v and %d", c.c, c.s, lengths(l), len(left), err, c.ruled, c.left)
			}
		}
	}
}

// Fed bit by bit, whatever the bits, a text has the pieces of Cut.
func TestFeedBitByBit(t *testing.T) {
	for _, s := range someTexts() {
		for _, c := range rightCuts {
			for _, n := range []int{1, 7, 16, 100, 1024, 4096} {
				if len(s) > 1025*n { // a long text byte by byte takes long, and shows no more
					continue
				}
				l, left := fed(t, c, s, n)
				if want, rest := slowCut(c, s); !slices.Equal(l, want) || left != rest {
					t.Errorf("Feed(%v, %.20q) by %d: pieces of %v and %d, want %v and %d", c, s, n, lengths(l), len(left), lengths(want), len(rest))
				}
			}
		}
	}
}

func fed(t *testing.T, c api.Cut, s string, n int) ([]string, string) {
	t.Helper()
	var all []string
	held := ""
	for len(s) > 0 {
		n = min(n, len(s))
		l, left, err := chunk.Feed(c, held, s[:n])
		if err != api.OK {
			t.Fatalf("Feed(%v, %.20q, %.20q) = %v", c, held, s[:n], err)
		}
		all = append(all, l...)
		held, s = left, s[n:]
	}
	return all, held
}

func TestFeedRefuses(t *testing.T) {
	for _, c := range wrongCuts {
		for _, n := range []int{0, 1, 300, 2048, 4096, 5000} {
			refuseFeed(t, c, zeros(n), zeros(n), api.ErrArg)
			refuseFeed(t, c, "", odd(1, n), api.ErrArg)
			refuseFeed(t, c, odd(1, n), "", api.ErrArg)
		}
	}
	for _, c := range rightCuts {
		refuseFeed(t, c, zeros(4097), "", api.ErrLarge)
		refuseFeed(t, c, "", zeros(4097), api.ErrLarge)
		refuseFeed(t, c, zeros(4096), "a", api.ErrLarge)
		refuseFeed(t, c, "a", zeros(4096), api.ErrLarge)
		refuseFeed(t, c, odd(1, 2048), odd(1, 2049), api.ErrLarge)
		refuseFeed(t, c, odd(1, 4096), odd(1, 4096), api.ErrLarge)
	}
}

func refuseFeed(t *testing.T, c api.Cut, held, more string, want api.Errno) {
	t.Helper()
	if l, left, err := chunk.Feed(c, held, more); l != nil || left != "" || err != want {
		t.Errorf("Feed(%v, %d bytes, %d bytes) = %.20q, %.20q, %v, want %v alone", c, len(held), len(more), l, left, err, want)
	}
}

// told ranges over what Each answers, and leaves it behind most pieces.
func told(c api.Cut, s string, most int) ([]int, []string) {
	var places []int
	var l []string
	for at, p := range chunk.Each(c, s) {
		if len(l) == most {
			break
		}
		places = append(places, at)
		l = append(l, p)
	}
	return places, l
}

func begins(l []string) []int {
	var places []int
	at := 0
	for _, p := range l {
		places = append(places, at)
		at += len(p)
	}
	return places
}

func TestEach(t *testing.T) {
	for _, s := range someTexts() {
		for _, c := range rightCuts {
			want := withLeft(slowCut(c, s))
			for _, most := range []int{0, 1, 2, len(want) - 1, len(want), len(want) + 1} {
				if most < 0 {
					continue
				}
				some := want[:min(most, len(want))]
				if places, l := told(c, s, most); !slices.Equal(l, some) || !slices.Equal(places, begins(some)) {
					t.Errorf("Each(%v, %.20q), %d of them: pieces of %v at %v, want %v", c, s, most, lengths(l), places, lengths(some))
				}
			}
		}
	}
}

// Go ranges over a function by calling it: behind a no it is to tell nothing.
func TestEachEndsWhenLeft(t *testing.T) {
	for _, s := range someTexts() {
		for _, c := range rightCuts {
			whole := len(withLeft(slowCut(c, s)))
			for _, most := range []int{1, 2, whole - 1, whole} {
				n := 0
				chunk.Each(c, s)(func(int, string) bool {
					n++
					return n < most
				})
				if want := min(max(most, 1), whole); n != want {
					t.Errorf("Each(%v, %.20q), left behind %d: told %d", c, s, most, n)
				}
			}
		}
	}
}

func TestEachIsRangedOverAgain(t *testing.T) {
	c := api.Cut{Min: 16, Max: 64, Bits: 3}
	s := odd(1, 300)
	want, _ := chunk.Cut(c, s)
	each := chunk.Each(c, s)
	for range each {
		break
	}
	n := 0
	for at, p := range each {
		if n >= len(want) || p != want[n] || at != begins(want)[n] {
			t.Errorf("piece %d: %q at %d", n, p, at)
		}
		var inner []string
		for _, q := range each {
			inner = append(inner, q)
		}
		if !slices.Equal(inner, want) {
			t.Errorf("ranged over within piece %d: %q", n, inner)
		}
		n++
	}
	if n != len(want) {
		t.Errorf("%d pieces the second time, want %d", n, len(want))
	}
}

func TestEachHasNothingWhereCutRefuses(t *testing.T) {
	for _, c := range wrongCuts {
		for _, s := range []string{"", "abc", odd(1, 300), zeros(4097)} {
			for at, p := range chunk.Each(c, s) {
				t.Errorf("Each(%v, %.20q) tells %.20q at %d", c, s, p, at)
			}
		}
	}
	for _, c := range rightCuts {
		for at, p := range chunk.Each(c, zeros(4097)) {
			t.Errorf("Each(%v, 4097 bytes) tells %.20q at %d", c, p, at)
		}
	}
}

func TestUntil(t *testing.T) {
	as := strings.Repeat("a", 50)
	twenty := api.Cut{Min: 16, Max: 20, Bits: 12}
	for _, c := range []struct {
		s         string
		most, end int
	}{
		{"", 0, 0}, {"", 10, 0}, {"", -1, 0},
		{"a", 0, 0}, {"a", 1, 1}, {"a", 2, 1},
		{as, math.MinInt, 0}, {as, -20, 0}, {as, -1, 0}, {as, 0, 0}, {as, 1, 0}, {as, 19, 0},
		{as, 20, 20}, {as, 21, 20}, {as, 39, 20},
		{as, 40, 40}, {as, 41, 40}, {as, 49, 40},
		{as, 50, 50}, {as, 51, 50}, {as, 4096, 50}, {as, 4097, 50}, {as, math.MaxInt, 50},
		{zeros(32), 31, 16}, {zeros(32), 32, 32}, {zeros(32), 33, 32},
	} {
		if s, end := chunk.Until(twenty, c.s, c.most); s != c.s[:c.end] || end != c.end {
			t.Errorf("Until(%.20q, %d) = %.20q, %d, want %d bytes", c.s, c.most, s, end, c.end)
		}
	}
}

func TestUntilJoinsPieces(t *testing.T) {
	for _, s := range []string{odd(1, 300), odd(2, 4096), odd(7, 1000)} {
		for _, c := range rightCuts {
			end := 0
			for _, p := range withLeft(slowCut(c, s)) {
				next := end + len(p)
				for _, most := range []int{end, end + 1, next - 1} {
					if got, n := chunk.Until(c, s, most); most < next && (got != s[:end] || n != end) {
						t.Errorf("Until(%v, %.20q, %d) = %d bytes, %d, want %d", c, s, most, len(got), n, end)
					}
				}
				end = next
			}
			if got, n := chunk.Until(c, s, end); got != s || n != len(s) {
				t.Errorf("Until(%v, %.20q, %d) = %d bytes, %d, want all", c, s, end, len(got), n)
			}
		}
	}
}

func TestUntilHasNothingWhereCutRefuses(t *testing.T) {
	for _, most := range []int{-1, 0, 16, 4096, math.MaxInt} {
		for _, c := range wrongCuts {
			for _, s := range []string{"", "abc", odd(1, 300), zeros(4097)} {
				if got, n := chunk.Until(c, s, most); got != "" || n != 0 {
					t.Errorf("Until(%v, %.20q, %d) = %.20q, %d", c, s, most, got, n)
				}
			}
		}
		if got, n := chunk.Until(rightCuts[0], zeros(4097), most); got != "" || n != 0 {
			t.Errorf("Until(%v, 4097 bytes, %d) = %.20q, %d", rightCuts[0], most, got, n)
		}
	}
}
