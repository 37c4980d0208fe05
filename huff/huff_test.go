package huff_test

import (
	"fmt"
	"hash/crc32"
	"math"
	"slices"
	"strings"
	"testing"

	"lumberroom/api"
	"lumberroom/huff"
)

// full is the Kraft sum that leaves no code free.
const full = 1 << 48

func many(n, value int) []int { return slices.Repeat([]int{value}, n) }

func list(l ...[]int) []int { return slices.Concat(l...) }

// odd makes n numbers from 0 to most: the same ones for each seed.
func odd(seed, n, most int) []int {
	l := make([]int, n)
	for i := range l {
		seed = (seed*1103515245 + 12345) % (1 << 31)
		l[i] = (seed >> 8) % (most + 1)
	}
	return l
}

// rising is first, first+1 .. last.
func rising(first, last int) []int {
	var l []int
	for n := first; n <= last; n++ {
		l = append(l, n)
	}
	return l
}

// fibonacci are the weights up to 2^20 of which each is as much as the two
// ahead: of all weights these make the longest codes.
func fibonacci() []int {
	l := []int{1, 1}
	for {
		next := l[len(l)-1] + l[len(l)-2]
		if next > 1<<20 {
			return l
		}
		l = append(l, next)
	}
}

// deepest goes on where fibonacci ends, with so many greatest weights as are
// needed for one more heap each time.
func deepest() []int { return list(fibonacci(), many(126, 1<<20)) }

func sumOf(l []int) uint32 {
	text := strings.Trim(fmt.Sprint(l), "[]")
	return crc32.ChecksumIEEE([]byte(text))
}

func cost(f, lengths []int) int {
	n := 0
	for i := range f {
		n += f[i] * lengths[i]
	}
	return n
}

var weights = []struct{ f, want []int }{
	{[]int{0}, []int{0}},
	{[]int{0, 0, 0}, []int{0, 0, 0}},
	{many(256, 0), many(256, 0)},
	{[]int{1}, []int{1}},
	{[]int{1 << 20}, []int{1}},
	{[]int{7, 0, 0}, []int{1, 0, 0}},
	{[]int{0, 7, 0}, []int{0, 1, 0}},
	{[]int{0, 0, 7}, []int{0, 0, 1}},
	{list(many(255, 0), []int{1}), list(many(255, 0), []int{1})},
	{[]int{1, 1}, []int{1, 1}},
	{[]int{1, 1 << 20}, []int{1, 1}},
	{[]int{1 << 20, 1 << 20}, []int{1, 1}},
	{[]int{0, 3, 0, 2, 0}, []int{0, 1, 0, 1, 0}},
	{[]int{5, 1, 1}, []int{1, 2, 2}},
	{[]int{5, 1, 1, 0}, []int{1, 2, 2, 0}},
	{[]int{1, 5, 0, 1}, []int{2, 1, 0, 2}},
	{[]int{1, 1, 1, 1, 4}, []int{3, 3, 3, 3, 1}},
	{[]int{1, 2, 4, 8, 16}, []int{4, 4, 3, 2, 1}},
	{[]int{16, 8, 4, 2, 1}, []int{1, 2, 3, 4, 4}},
	{[]int{3, 3, 3, 3}, []int{2, 2, 2, 2}},
	{many(256, 1), many(256, 8)},
	{many(256, 1<<20), many(256, 8)},
	{many(128, 9), many(128, 7)},
	{fibonacci(), []int{29, 29, 28, 27, 26, 25, 24, 23, 22, 21, 20, 19, 18, 17, 16, 15, 14, 13, 12, 11, 10, 9, 8, 7, 6, 5, 4, 3, 2, 1}},
}

func TestLengths(t *testing.T) {
	for _, c := range weights {
		if l, err := huff.Lengths(c.f); err != api.OK || !slices.Equal(l, c.want) {
			t.Errorf("Lengths(%v) = %v, %v, want %v", c.f, l, err, c.want)
		}
	}
}

// Each of these has other lengths where of heaps of one weight another one is
// taken first: the one made last or first, the smaller one, the greater one,
// the one with the greater greatest sign.
func TestLengthsOfOneWeightByLeastSign(t *testing.T) {
	for _, c := range []struct{ f, want []int }{
		{[]int{1, 1, 1}, []int{2, 2, 1}},
		{[]int{1, 2, 2}, []int{2, 2, 1}},
		{[]int{2, 1, 1, 2}, []int{2, 3, 3, 1}},
		{[]int{1, 1, 1, 2}, []int{3, 3, 2, 1}},
		{[]int{1, 1, 2, 1}, []int{3, 3, 1, 2}},
		{[]int{2, 1, 1, 1}, []int{2, 2, 2, 2}},
		{[]int{2, 2, 1, 1}, []int{2, 2, 2, 2}},
		{[]int{1, 2, 1, 1}, []int{3, 1, 3, 2}},
		{[]int{1, 2, 2, 1}, []int{3, 2, 1, 3}},
		{[]int{2, 2, 3, 1}, []int{3, 2, 1, 3}},
		{[]int{2, 3, 1, 2}, []int{3, 1, 3, 2}},
		{[]int{0, 2, 0, 3, 1, 0, 2}, []int{0, 3, 0, 1, 3, 0, 2}},
		{many(5, 1), []int{3, 3, 2, 2, 2}},
		{many(6, 1), []int{3, 3, 3, 3, 2, 2}},
		{many(7, 1), []int{3, 3, 3, 3, 3, 3, 2}},
	} {
		if l, err := huff.Lengths(c.f); err != api.OK || !slices.Equal(l, c.want) {
			t.Errorf("Lengths(%v) = %v, %v, want %v", c.f, l, err, c.want)
		}
	}
}

// The answers were worked out by another program.
func TestLengthsAndCodesOfManySigns(t *testing.T) {
	for _, c := range []struct {
		seed, n, most, longest, cost int
		lengths, codes               uint32
	}{
		{1, 256, 1 << 20, 16, 1015726143, 0x76a5195d, 0xa622f592},
		{2, 256, 9, 10, 7946, 0x5971bdc8, 0xe0e237d8},
		{3, 256, 1, 8, 932, 0x46ba494b, 0x58da83ba},
		{4, 100, 3, 8, 918, 0x783d72ff, 0x5f14d5c8},
		{5, 255, 1000, 15, 1043304, 0x1430b620, 0x8ffd239c},
		{6, 7, 5, 2, 30, 0xfaab4a71, 0xdc18d531},
		{7, 200, 2, 8, 1411, 0x8ca97daf, 0xc1db4526},
	} {
		f := odd(c.seed, c.n, c.most)
		l, err := huff.Lengths(f)
		if err != api.OK || len(l) != c.n || slices.Max(l) != c.longest || cost(f, l) != c.cost || sumOf(l) != c.lengths {
			t.Errorf("Lengths(%d numbers to %d) = %v, %v", c.n, c.most, l, err)
		}
		if codes, err := huff.Codes(l); err != api.OK || sumOf(codes) != c.codes {
			t.Errorf("Codes(Lengths(%d numbers to %d)) = %v, %v", c.n, c.most, codes, err)
		}
	}
}

// slowLengths reads P19 word by word.
func slowLengths(f []int) []int {
	lengths := make([]int, len(f))
	var heaps [][]int
	for sign, n := range f {
		if n > 0 {
			heaps = append(heaps, []int{sign})
		}
	}
	if len(heaps) == 1 {
		lengths[heaps[0][0]] = 1
	}
	for len(heaps) > 1 {
		var two []int
		two, heaps = leastHeap(f, heaps)
		second, others := leastHeap(f, heaps)
		two = list(two, second)
		for _, sign := range two {
			lengths[sign]++
		}
		heaps = append(others, two)
	}
	return lengths
}

func leastHeap(f []int, heaps [][]int) ([]int, [][]int) {
	best := 0
	for i, h := range heaps {
		w, least := weightOf(f, h), weightOf(f, heaps[best])
		if w < least || w == least && slices.Min(h) < slices.Min(heaps[best]) {
			best = i
		}
	}
	return heaps[best], slices.Concat(heaps[:best], heaps[best+1:])
}

func weightOf(f, signs []int) int {
	w := 0
	for _, sign := range signs {
		w += f[sign]
	}
	return w
}

// someWeights are lists that Lengths takes.
func someWeights() [][]int {
	all := [][]int{deepest(), list(many(100, 1<<20), deepest()), slices.Repeat(fibonacci(), 8)}
	for _, c := range weights {
		all = append(all, c.f)
	}
	for _, most := range []int{1, 2, 3, 10, 100, 5000, 1 << 20} {
		for _, n := range []int{1, 2, 3, 8, 31, 100, 255, 256} {
			all = append(all, odd(n+most, n, most))
		}
	}
	return all
}

// eachList tells every list of n numbers from 0 to most.
func eachList(n, most int, tell func([]int)) {
	l := make([]int, n)
	for {
		tell(slices.Clone(l))
		at := 0
		for at < n && l[at] == most {
			l[at] = 0
			at++
		}
		if at == n {
			return
		}
		l[at]++
	}
}

func checkLengths(t *testing.T, f []int) {
	t.Helper()
	want := slowLengths(f)
	l, err := huff.Lengths(f)
	if err != api.OK || !slices.Equal(l, want) {
		t.Fatalf("Lengths(%v) = %v, %v, want %v", f, l, err, want)
	}
	there := 0
	for _, n := range f {
		there += min(n, 1)
	}
	if k, err := huff.Kraft(l); err != api.OK || k != min(there, 2)*full/2 {
		t.Errorf("Kraft(Lengths(%v)) = %d, %v", f, k, err)
	}
	if c, err := huff.Codes(l); err != api.OK || !slices.Equal(c, slowCodes(l)) {
		t.Errorf("Codes(Lengths(%v)) = %v, %v", f, c, err)
	}
}

func TestLengthsWordByWord(t *testing.T) {
	for _, f := range someWeights() {
		checkLengths(t, f)
	}
	for n := 1; n <= 6; n++ {
		eachList(n, 4, func(f []int) { checkLengths(t, f) })
	}
}

func TestLengthsAreLongOnlyWithinMaxBits(t *testing.T) {
	l, err := huff.Lengths(deepest())
	if err != api.OK || slices.Max(l) != 35 {
		t.Errorf("the longest is %d, %v, want 35", slices.Max(l), err)
	}
}

// leastCost tries all lengths that codes can have.
func leastCost(f []int, lengths [][]int) int {
	best := math.MaxInt
	for _, l := range lengths {
		best = min(best, cost(f, l))
	}
	return best
}

func TestLengthsCostLeast(t *testing.T) {
	for n := 2; n <= 5; n++ {
		var possible [][]int
		eachList(n, n-2, func(l []int) {
			room := 0.0
			for i := range l {
				l[i]++ // every sign has a bit at least, and none needs n of them
				room += math.Pow(0.5, float64(l[i]))
			}
			if room <= 1 {
				possible = append(possible, l)
			}
		})
		eachList(n, 3, func(f []int) {
			for i := range f {
				f[i] = []int{1, 2, 3, 7}[f[i]]
			}
			l, err := huff.Lengths(f)
			if want := leastCost(f, possible); err != api.OK || cost(f, l) != want {
				t.Errorf("Lengths(%v) = %v, %v: these cost %d, want %d", f, l, err, cost(f, l), want)
			}
		})
	}
}

// wrongLists are lists that have one number too small or too large each, in
// several places, and lists of none and of too many.
func wrongLists(most int) [][]int {
	all := [][]int{nil, {}, many(257, 0), many(257, 1), many(257, most), many(258, 1), many(512, 1), many(1<<16, 1), many(257, -1)}
	for _, wrong := range []int{-1, -2, -most, most + 1, most + 2, 2 * most, 1 << 32, -1 << 32, 1<<32 + 1, math.MinInt, math.MaxInt} {
		one := []int{wrong}
		all = append(all, one, list(one, one), list(one, many(255, 1)), list(many(255, 0), one), list(many(100, most), one, many(100, 0)))
	}
	return all
}

func TestLengthsRefuses(t *testing.T) {
	for _, f := range wrongLists(1 << 20) {
		if l, err := huff.Lengths(f); l != nil || err != api.ErrArg {
			t.Errorf("Lengths(%d numbers: %v) = %v, %v, want %v alone", len(f), f[:min(3, len(f))], l, err, api.ErrArg)
		}
	}
}

func TestKraftAndCodesRefuse(t *testing.T) {
	for _, l := range wrongLists(48) {
		if k, err := huff.Kraft(l); k != 0 || err != api.ErrArg {
			t.Errorf("Kraft(%d numbers: %v) = %d, %v, want %v alone", len(l), l[:min(3, len(l))], k, err, api.ErrArg)
		}
		if c, err := huff.Codes(l); c != nil || err != api.ErrArg {
			t.Errorf("Codes(%d numbers: %v) = %v, %v, want %v alone", len(l), l[:min(3, len(l))], c, err, api.ErrArg)
		}
	}
}

// A number that is out of its bounds is told ahead of a sum that is too great.
func TestCodesTellsErrArgFirst(t *testing.T) {
	for _, l := range [][]int{{1, 1, 1, -1}, {1, 1, 1, 49}, {-1, 1, 1, 1}, many(257, 1), list(many(255, 1), []int{49})} {
		if c, err := huff.Codes(l); c != nil || err != api.ErrArg {
			t.Errorf("Codes(%d numbers) = %v, %v, want %v alone", len(l), c, err, api.ErrArg)
		}
	}
}

var kraftSums = []struct {
	l    []int
	want int
}{
	{[]int{0}, 0}, {many(256, 0), 0},
	{[]int{1}, full / 2}, {[]int{1, 0}, full / 2}, {[]int{2}, full / 4}, {[]int{47}, 2}, {[]int{48}, 1},
	{[]int{1, 1}, full}, {[]int{1, 2, 2}, full}, {[]int{0, 2, 0, 2, 1}, full},
	{[]int{3, 3}, full / 4}, {many(256, 48), 256}, {many(256, 8), full},
	{list(rising(1, 48), []int{48}), full},
	{rising(1, 48), full - 1},
	{list(rising(1, 48), []int{48, 48}), full + 1},
	{[]int{1, 1, 48}, full + 1}, {[]int{48, 1, 1}, full + 1}, {[]int{1, 1, 1}, 3 * full / 2},
	{list(many(255, 8), []int{7}), full + full/256}, {list(many(255, 8), []int{9}), full - full/512},
	{many(256, 1), 128 * full}, {many(256, 7), 2 * full},
}

func TestKraft(t *testing.T) {
	for _, c := range kraftSums {
		if k, err := huff.Kraft(c.l); k != c.want || err != api.OK {
			t.Errorf("Kraft(%v) = %d, %v, want %d", c.l, k, err, c.want)
		}
	}
	for n := 1; n <= 48; n++ {
		for _, count := range []int{1, 2, 3, 255, 256} {
			if k, err := huff.Kraft(many(count, n)); k != count<<(48-n) || err != api.OK {
				t.Errorf("Kraft(%d times %d) = %d, %v", count, n, k, err)
			}
		}
	}
}

func TestCodesRefusesSumsAboveFull(t *testing.T) {
	for _, c := range kraftSums {
		want := api.OK
		if c.want > full {
			want = api.ErrForm
		}
		if codes, err := huff.Codes(c.l); err != want || err != api.OK && codes != nil {
			t.Errorf("Codes(%v) = %v, %v, want %v", c.l, codes, err, want)
		}
	}
}

func TestCodes(t *testing.T) {
	var ones []int // 0, 10, 110 .. in bits
	for n := range 48 {
		ones = append(ones, 1<<(n+1)-2)
	}
	for _, c := range []struct{ l, want []int }{
		{[]int{0}, []int{0}},
		{many(256, 0), many(256, 0)},
		{[]int{1}, []int{0}},
		{[]int{48}, []int{0}},
		{[]int{0, 0, 5}, []int{0, 0, 0}},
		{[]int{1, 1}, []int{0, 1}},
		{[]int{1, 2, 2}, []int{0, 2, 3}},
		{[]int{1, 2, 2, 0}, []int{0, 2, 3, 0}},
		{[]int{2, 2, 1}, []int{2, 3, 0}},
		{[]int{3, 1, 2, 3}, []int{6, 0, 2, 7}},
		{[]int{0, 2, 0, 2, 1}, []int{0, 2, 0, 3, 0}},
		{[]int{3, 3}, []int{0, 1}},
		{[]int{2, 3}, []int{0, 2}},
		{[]int{5, 2, 9}, []int{8, 0, 144}},
		{[]int{48, 1}, []int{1 << 47, 0}},
		{[]int{48, 48, 1}, []int{1 << 47, 1<<47 + 1, 0}},
		{many(8, 3), rising(0, 7)},
		{many(256, 8), rising(0, 255)},
		{many(256, 48), rising(0, 255)},
		{rising(1, 48), ones},
		{list(rising(1, 48), []int{48}), list(ones, []int{1<<48 - 1})},
	} {
		if codes, err := huff.Codes(c.l); err != api.OK || !slices.Equal(codes, c.want) {
			t.Errorf("Codes(%v) = %v, %v, want %v", c.l, codes, err, c.want)
		}
	}
}

// slowCodes reads P20 word by word, with codes as texts of bits.
func slowCodes(l []int) []int {
	codes := make([]int, len(l))
	ahead := ""
	for n := 1; n <= 48; n++ {
		for sign := range l {
			if l[sign] != n {
				continue
			}
			if ahead != "" {
				ahead = plusOne(ahead)
			}
			ahead += strings.Repeat("0", n-len(ahead))
			for _, bit := range ahead {
				codes[sign] = 2*codes[sign] + int(bit-'0')
			}
		}
	}
	return codes
}

// plusOne turns the last 0 into a 1, and the 1s behind it into 0s.
func plusOne(bits string) string {
	at := strings.LastIndex(bits, "0")
	return bits[:at] + "1" + strings.Repeat("0", len(bits)-at-1)
}

func checkCodes(t *testing.T, l []int) {
	t.Helper()
	k, err := huff.Kraft(l)
	if err != api.OK {
		t.Fatalf("Kraft(%v) = %v", l, err)
	}
	codes, err := huff.Codes(l)
	if k > full {
		if codes != nil || err != api.ErrForm {
			t.Errorf("Codes(%v) = %v, %v, want %v alone", l, codes, err, api.ErrForm)
		}
		return
	}
	if err != api.OK || !slices.Equal(codes, slowCodes(l)) {
		t.Fatalf("Codes(%v) = %v, %v, want %v", l, codes, err, slowCodes(l))
	}
	checkNoBeginnings(t, l, codes)
}

// checkNoBeginnings: of sorted texts one that is a beginning of another is one
// of the next.
func checkNoBeginnings(t *testing.T, l, codes []int) {
	t.Helper()
	var texts []string
	for sign, n := range l {
		if n > 0 {
			texts = append(texts, fmt.Sprintf("%0*b", n, codes[sign]))
			if len(texts[len(texts)-1]) != n {
				t.Errorf("the code of sign %d is %s, want %d bits", sign, texts[len(texts)-1], n)
			}
		}
	}
	slices.Sort(texts)
	for i := 1; i < len(texts); i++ {
		if strings.HasPrefix(texts[i], texts[i-1]) {
			t.Errorf("Codes(%v): %s is a beginning of %s", l, texts[i-1], texts[i])
		}
	}
}

// someLengths are lists that Kraft takes.
func someLengths() [][]int {
	all := [][]int{list(rising(40, 48), rising(1, 39), []int{48}), slices.Repeat(rising(8, 48), 6), list(many(200, 8), many(56, 20))}
	for _, c := range kraftSums {
		all = append(all, c.l)
	}
	for _, n := range []int{1, 2, 5, 40, 255, 256} {
		all = append(all, odd(n, n, 48), odd(n, n, 9))
		high := odd(n, n, 40)
		for i := range high {
			high[i] += 8 // of 256 of these the sum is not above 2^48
		}
		all = append(all, high)
	}
	return all
}

func TestCodesWordByWord(t *testing.T) {
	for _, l := range someLengths() {
		checkCodes(t, l)
	}
	for n := 1; n <= 5; n++ {
		eachList(n, 6, func(l []int) { checkCodes(t, l) })
	}
}
