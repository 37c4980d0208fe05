package lz_test

import (
	"hash/crc32"
	"math"
	"slices"
	"strings"
	"testing"

	"lumberroom/api"
	"lumberroom/lz"
)

func letter(c byte) api.Token { return api.Token{Lit: c} }

func copyOf(n, dist int) api.Token { return api.Token{Len: n, Dist: dist} }

// letters are the tokens of a text without a copy.
func letters(s string) []api.Token {
	var l []api.Token
	for i := range len(s) {
		l = append(l, letter(s[i]))
	}
	return l
}

// tokens joins lists.
func tokens(l ...[]api.Token) []api.Token { return slices.Concat(l...) }

func many(n int, t api.Token) []api.Token { return slices.Repeat([]api.Token{t}, n) }

// odd makes n bytes that look like no text: the same ones for each seed.
func odd(seed, n int) string {
	b := make([]byte, n)
	for i := range b {
		seed = (seed*1103515245 + 12345) % (1 << 31)
		b[i] = byte(seed >> 16)
	}
	return string(b)
}

// few makes n bytes of k unlike ones, which leave much to copy.
func few(seed, n, k int) string {
	b := []byte(odd(seed, n))
	for i := range b {
		b[i] = 'a' + b[i]%byte(k)
	}
	return string(b)
}

// unlike are bytes that have no copy among n that stand next to one another,
// for n up to 256.
func unlike(n int) string {
	b := make([]byte, n)
	for i := range b {
		b[i] = byte(i)
	}
	return string(b)
}

func someTexts() []string {
	return []string{
		"", "a", "\x00", "\xff", "aa", "ab", "aaaa", "aaaab", "abab", "abcabcabc", "abcab\x00\x00\xffab",
		unlike(256), unlike(256) + unlike(256), strings.Repeat(unlike(256), 16),
		strings.Repeat("a", 255), strings.Repeat("a", 256), strings.Repeat("a", 257), strings.Repeat("a", 4096),
		strings.Repeat("ab", 2048), strings.Repeat("\x00", 4095), strings.Repeat(odd(5, 1024), 4), strings.Repeat(odd(5, 1025), 3),
		odd(1, 4096), odd(2, 1000), few(1, 4096, 2), few(2, 4096, 3), few(3, 3000, 7), few(4, 4096, 26),
	}
}

var rightTokens = []api.Token{
	{}, {Lit: 1}, {Lit: 'a'}, {Lit: 255},
	{Len: 1, Dist: 1}, {Len: 1, Dist: 1024}, {Len: 255, Dist: 1}, {Len: 255, Dist: 1024},
	{Len: 2, Dist: 256}, {Len: 254, Dist: 1023}, {Len: 100, Dist: 255},
}

var wrongTokens = []api.Token{
	{Len: 1}, {Len: 255}, {Lit: 'a', Len: 1}, {Len: -1}, {Len: 256},
	{Dist: 1}, {Dist: 1024}, {Lit: 'a', Dist: 1}, {Dist: -1}, {Dist: 1025},
	{Lit: 1, Len: 1, Dist: 1}, {Lit: 255, Len: 255, Dist: 1024},
	{Len: 256, Dist: 1}, {Len: 257, Dist: 1}, {Len: 512, Dist: 1}, {Len: 1 << 32, Dist: 1}, {Len: math.MaxInt, Dist: 1},
	{Len: -1, Dist: 1}, {Len: -255, Dist: 1}, {Len: math.MinInt, Dist: 1},
	{Len: 1, Dist: 1025}, {Len: 1, Dist: 65536 + 1}, {Len: 1, Dist: 1<<32 + 1}, {Len: 1, Dist: math.MaxInt},
	{Len: 1, Dist: -1}, {Len: 1, Dist: -1024}, {Len: 1, Dist: math.MinInt},
	{Len: math.MinInt, Dist: math.MinInt}, {Len: math.MaxInt, Dist: math.MaxInt},
}

func TestCheckTakesRightTokens(t *testing.T) {
	for _, l := range [][]api.Token{nil, {}, rightTokens, many(4095, copyOf(255, 1024)), many(4096, letter('a')), many(4096, copyOf(1, 1))} {
		if err := lz.Check(l); err != api.OK {
			t.Errorf("Check(%d tokens) = %v", len(l), err)
		}
	}
	for c := range 256 {
		if err := lz.Check([]api.Token{letter(byte(c))}); err != api.OK {
			t.Errorf("Check of the letter %d = %v", c, err)
		}
	}
}

func TestCheckKnowsEveryLenAndDist(t *testing.T) {
	for n := -2; n <= 258; n++ {
		for dist := -2; dist <= 1027; dist++ {
			want := api.ErrForm
			if n == 0 && dist == 0 || 1 <= n && n <= 255 && 1 <= dist && dist <= 1024 {
				want = api.OK
			}
			if err := lz.Check([]api.Token{copyOf(n, dist)}); err != want {
				t.Fatalf("Check of Len %d, Dist %d = %v, want %v", n, dist, err, want)
			}
		}
	}
}

// withWrong are lists that have one wrong token each, in several places.
func withWrong() [][]api.Token {
	var all [][]api.Token
	for _, w := range wrongTokens {
		one := []api.Token{w}
		all = append(all, one, tokens(one, rightTokens), tokens(rightTokens, one), tokens(rightTokens, one, rightTokens),
			tokens(many(4095, letter('a')), one))
	}
	return all
}

func TestCheckRefusesWrongTokens(t *testing.T) {
	for _, l := range withWrong() {
		if err := lz.Check(l); err != api.ErrForm {
			t.Errorf("Check(%d tokens, %v the last) = %v, want %v", len(l), l[len(l)-1], err, api.ErrForm)
		}
	}
}

// tooMany are lists of more tokens than there may be; that is told ahead of a wrong one.
func tooMany() [][]api.Token {
	return [][]api.Token{
		many(4097, letter('a')), many(4097, copyOf(1, 1)), many(5000, letter(0)), many(1<<16, letter(0)),
		many(4097, wrongTokens[0]),
		tokens([]api.Token{wrongTokens[1]}, many(4096, letter('a'))),
		tokens(many(4096, letter('a')), []api.Token{wrongTokens[2]}),
	}
}

func TestCheckRefusesTooMany(t *testing.T) {
	for _, l := range tooMany() {
		if err := lz.Check(l); err != api.ErrLarge {
			t.Errorf("Check(%d tokens) = %v, want %v", len(l), err, api.ErrLarge)
		}
	}
}

var expansions = []struct {
	l    []api.Token
	want string
}{
	{nil, ""},
	{[]api.Token{}, ""},
	{[]api.Token{{}}, "\x00"},
	{letters("a\x00\xffa"), "a\x00\xffa"},
	{[]api.Token{{Lit: 'a'}, {Len: 3, Dist: 1}, {Lit: 'b'}}, "aaaab"},
	{[]api.Token{{Lit: 'a'}, {Lit: 'b'}, {Len: 1, Dist: 2}}, "aba"},
	{[]api.Token{{Lit: 'a'}, {Lit: 'b'}, {Len: 1, Dist: 1}}, "abb"},
	{[]api.Token{{Lit: 'a'}, {Lit: 'b'}, {Len: 2, Dist: 2}}, "abab"},
	{[]api.Token{{Lit: 'a'}, {Lit: 'b'}, {Len: 5, Dist: 2}}, "abababa"},
	{[]api.Token{{Lit: 'a'}, {Lit: 'b'}, {Lit: 'c'}, {Len: 7, Dist: 3}, {Len: 2, Dist: 10}}, "abcabcabcaab"},
	{[]api.Token{{Lit: 'a'}, {Len: 1, Dist: 1}, {Len: 2, Dist: 2}, {Len: 4, Dist: 4}}, "aaaaaaaa"},
	{[]api.Token{{Lit: 'x'}, {Len: 255, Dist: 1}}, strings.Repeat("x", 256)},
	{many(4096, letter('a')), strings.Repeat("a", 4096)},
	{tokens(letters("a"), many(4095, copyOf(1, 1))), strings.Repeat("a", 4096)},
	{tokens(letters("a"), many(16, copyOf(255, 1)), many(15, copyOf(1, 1))), strings.Repeat("a", 4096)},
	{tokens(letters("a"+odd(1, 1023)), []api.Token{{Len: 3, Dist: 1024}}), "a" + odd(1, 1023) + "a" + odd(1, 1023)[:2]},
	{tokens(letters("!"+odd(1, 1024)), []api.Token{{Len: 255, Dist: 1024}}), "!" + odd(1, 1024) + odd(1, 1024)[:255]},
}

func TestExpand(t *testing.T) {
	for _, c := range expansions {
		for _, most := range []int{len(c.want), len(c.want) + 1, 4095, 4096} {
			if most < len(c.want) || most > 4096 {
				continue
			}
			if s, err := lz.Expand(c.l, most); s != c.want || err != api.OK {
				t.Errorf("Expand(%.80v, %d) = %.40q, %v, want %.40q", c.l[:min(5, len(c.l))], most, s, err, c.want)
			}
		}
		for _, most := range []int{0, len(c.want) / 2, len(c.want) - 1} {
			if 0 <= most && most < len(c.want) {
				refuseExpand(t, c.l, most, api.ErrLarge)
			}
		}
	}
}

func refuseExpand(t *testing.T, l []api.Token, most int, want api.Errno) {
	t.Helper()
	if s, err := lz.Expand(l, most); s != "" || err != want {
		t.Errorf("Expand(%d tokens, %d) = %.20q, %v, want %v alone", len(l), most, s, err, want)
	}
}

func TestExpandRefusesMostFirst(t *testing.T) {
	for _, most := range []int{math.MinInt, -4096, -1, 4097, 1 << 32, math.MaxInt} {
		refuseExpand(t, nil, most, api.ErrArg)
		refuseExpand(t, letters("abc"), most, api.ErrArg)
		refuseExpand(t, []api.Token{{Len: 1, Dist: 1}}, most, api.ErrArg)
		refuseExpand(t, []api.Token{wrongTokens[0]}, most, api.ErrArg)
		refuseExpand(t, many(4097, letter('a')), most, api.ErrArg)
	}
}

func TestExpandRefusesWhatCheckDoes(t *testing.T) {
	for _, most := range []int{0, 1, 4095, 4096} {
		for _, l := range withWrong() {
			refuseExpand(t, l, most, api.ErrForm)
		}
		for _, l := range tooMany() {
			refuseExpand(t, l, most, api.ErrLarge)
		}
	}
	// A wrong token far behind is told ahead of what its bytes would run into.
	refuseExpand(t, tokens(letters("ab"), []api.Token{{Dist: 1}}), 1, api.ErrForm)
	refuseExpand(t, tokens([]api.Token{{Len: 1, Dist: 1}}, many(4096, letter('a'))), 4096, api.ErrLarge)
}

func TestExpandRefusesCopiesOfNothing(t *testing.T) {
	for _, c := range []struct{ made, dist int }{
		{0, 1}, {0, 2}, {0, 1024}, {1, 2}, {1, 1024}, {2, 3}, {255, 256}, {256, 257}, {1022, 1023}, {1023, 1024},
	} {
		for _, n := range []int{1, 2, 255} {
			l := tokens(letters(odd(1, c.made)), []api.Token{copyOf(n, c.dist)})
			// The copy's own bytes would be too many with some of these: its Dist is told first.
			for _, most := range []int{c.made, c.made + 1, c.made + n, 4096} {
				refuseExpand(t, l, most, api.ErrForm)
			}
		}
	}
}

func TestExpandTellsTheFirstTokenThatFails(t *testing.T) {
	nothing := []api.Token{{Len: 1, Dist: 9}}
	refuseExpand(t, tokens(letters("abc"), nothing), 2, api.ErrLarge)
	refuseExpand(t, tokens(letters("abc"), nothing), 3, api.ErrForm)
	refuseExpand(t, tokens(letters("a"), []api.Token{{Len: 4, Dist: 1}}, nothing), 4, api.ErrLarge)
	refuseExpand(t, tokens(letters("a"), []api.Token{{Len: 4, Dist: 1}}, nothing), 5, api.ErrForm)
	refuseExpand(t, tokens(letters("a"), many(17, copyOf(255, 1))), 4096, api.ErrLarge)
	refuseExpand(t, tokens(letters("a"), many(17, copyOf(255, 1)), nothing), 4096, api.ErrLarge)
	refuseExpand(t, tokens(nothing, letters("abc")), 2, api.ErrForm)
}

// These were worked out by hand.
func TestGreedy(t *testing.T) {
	for _, c := range []struct {
		s    string
		want []api.Token
	}{
		{"", nil},
		{"\x00", []api.Token{{}}},
		{"\x00\x00", []api.Token{{}, {Len: 1, Dist: 1}}},
		{"abc", letters("abc")},
		{"aaaa", []api.Token{{Lit: 'a'}, {Len: 3, Dist: 1}}},
		{"aba", []api.Token{{Lit: 'a'}, {Lit: 'b'}, {Len: 1, Dist: 2}}},
		{"abababa", []api.Token{{Lit: 'a'}, {Lit: 'b'}, {Len: 5, Dist: 2}}},
		{"aabaa", []api.Token{{Lit: 'a'}, {Len: 1, Dist: 1}, {Lit: 'b'}, {Len: 2, Dist: 3}}},
		// Of copies of one length the nearest one is taken.
		{"abxabyab", []api.Token{{Lit: 'a'}, {Lit: 'b'}, {Lit: 'x'}, {Len: 2, Dist: 3}, {Lit: 'y'}, {Len: 2, Dist: 3}}},
		{"aaxa", []api.Token{{Lit: 'a'}, {Len: 1, Dist: 1}, {Lit: 'x'}, {Len: 1, Dist: 2}}},
		// A longer one is taken from farther off.
		{"abcxabyabc", []api.Token{{Lit: 'a'}, {Lit: 'b'}, {Lit: 'c'}, {Lit: 'x'}, {Len: 2, Dist: 4}, {Lit: 'y'}, {Len: 3, Dist: 7}}},
		// And a longer one that makes its own bytes from nearer.
		{"aabaaaa", []api.Token{{Lit: 'a'}, {Len: 1, Dist: 1}, {Lit: 'b'}, {Len: 2, Dist: 3}, {Len: 2, Dist: 1}}},
		{strings.Repeat("a", 256), []api.Token{{Lit: 'a'}, {Len: 255, Dist: 1}}},
		{strings.Repeat("a", 257), []api.Token{{Lit: 'a'}, {Len: 255, Dist: 1}, {Len: 1, Dist: 1}}},
		{unlike(256) + unlike(256), tokens(letters(unlike(256)), []api.Token{{Len: 255, Dist: 256}, {Len: 1, Dist: 256}})},
		{"!" + strings.Repeat("a", 1023) + "!", []api.Token{{Lit: '!'}, {Lit: 'a'}, {Len: 255, Dist: 1}, {Len: 255, Dist: 1}, {Len: 255, Dist: 1}, {Len: 255, Dist: 1}, {Len: 2, Dist: 1}, {Len: 1, Dist: 1024}}},
		{"!" + strings.Repeat("a", 1024) + "!", []api.Token{{Lit: '!'}, {Lit: 'a'}, {Len: 255, Dist: 1}, {Len: 255, Dist: 1}, {Len: 255, Dist: 1}, {Len: 255, Dist: 1}, {Len: 3, Dist: 1}, {Lit: '!'}}},
	} {
		if l, err := lz.Greedy(c.s); !slices.Equal(l, c.want) || err != api.OK {
			t.Errorf("Greedy(%.40q) = %v, %v, want %v", c.s, l, err, c.want)
		}
	}
}

// These were worked out apart from the program.
func TestGreedyOfLongTexts(t *testing.T) {
	for _, c := range []struct {
		s             string
		count, packed int
		sum           uint32
	}{
		{odd(1, 4096), 4037, 11803, 0x862445ba},
		{odd(2, 1000), 993, 2725, 0xb3576b4d},
		{few(1, 4096, 2), 421, 1261, 0xeae42071},
		{few(2, 4096, 3), 673, 2016, 0x19faabb0},
		{few(3, 3000, 7), 960, 2873, 0x06275aa5},
		{few(4, 4096, 26), 2354, 7036, 0xf4815367},
	} {
		l, err := lz.Greedy(c.s)
		p, packErr := lz.Pack(l)
		if err != api.OK || packErr != api.OK || len(l) != c.count || len(p) != c.packed || crc32.ChecksumIEEE([]byte(p)) != c.sum {
			t.Errorf("Greedy(%.20q): %d tokens, %d bytes packed, %v, %v, want %d, %d", c.s, len(l), len(p), err, packErr, c.count, c.packed)
		}
	}
}

// slowGreedy looks, for one length behind the other, for the last place within
// reach where the bytes stand: where there is no copy there is no longer one.
func slowGreedy(s string) []api.Token {
	var l []api.Token
	for at := 0; at < len(s); {
		t := letter(s[at])
		from := max(0, at-1024)
		for n := 1; n <= min(255, len(s)-at); n++ {
			// A copy begins ahead of at, so what it copies ends ahead of at+n.
			i := strings.LastIndex(s[from:at+n-1], s[at:at+n])
			if i < 0 {
				break
			}
			t = copyOf(n, at-from-i)
		}
		l = append(l, t)
		at += max(t.Len, 1)
	}
	return l
}

func TestGreedyTakesTheLongestAndNearest(t *testing.T) {
	for _, s := range someTexts() {
		if l, err := lz.Greedy(s); !slices.Equal(l, slowGreedy(s)) || err != api.OK {
			t.Errorf("Greedy(%.40q): %d tokens, %v, unlike those that are asked for", s, len(l), err)
		}
	}
	for n := range 9 {
		eachWord("abc", n, func(s string) {
			if l, err := lz.Greedy(s); !slices.Equal(l, slowGreedy(s)) || err != api.OK {
				t.Errorf("Greedy(%q) = %v, %v, want %v", s, l, err, slowGreedy(s))
			}
		})
	}
}

// eachWord tells all texts of n of these signs.
func eachWord(signs string, n int, tell func(string)) {
	if n == 0 {
		tell("")
		return
	}
	eachWord(signs, n-1, func(s string) {
		for i := range len(signs) {
			tell(s + signs[i:i+1])
		}
	})
}

// fewestTokens is how many tokens at the least make s: each way of going on from
// each place is tried.
func fewestTokens(s string) int {
	fewest := make([]int, len(s)+1)
	for at := len(s) - 1; at >= 0; at-- {
		fewest[at] = 1 + fewest[at+1]
		for dist := 1; dist <= min(at, 1024); dist++ {
			for n := 1; n <= 255 && at+n <= len(s) && s[at+n-1] == s[at+n-1-dist]; n++ {
				fewest[at] = min(fewest[at], 1+fewest[at+n])
			}
		}
	}
	return fewest[0]
}

func TestNoTokensAreFewerThanGreedys(t *testing.T) {
	check := func(s string) {
		if l, _ := lz.Greedy(s); len(l) != fewestTokens(s) {
			t.Errorf("Greedy(%.40q) has %d tokens, %d are enough", s, len(l), fewestTokens(s))
		}
	}
	for _, s := range someTexts() {
		check(s[:min(len(s), 1500)]) // more takes long, and shows no more
	}
	for n := range 9 {
		eachWord("abc", n, check)
	}
}

func TestGreedyRefusesLongTexts(t *testing.T) {
	for _, s := range []string{strings.Repeat("a", 4097), odd(1, 4097), odd(1, 5000), strings.Repeat("ab", 1<<16)} {
		if l, err := lz.Greedy(s); l != nil || err != api.ErrLarge {
			t.Errorf("Greedy(%d bytes) = %d tokens, %v, want %v alone", len(s), len(l), err, api.ErrLarge)
		}
	}
}

func TestGreedysTokensMakeTheText(t *testing.T) {
	for _, s := range someTexts() {
		l, _ := lz.Greedy(s)
		if err := lz.Check(l); err != api.OK {
			t.Errorf("Check(Greedy(%.20q)) = %v", s, err)
		}
		if again, err := lz.Expand(l, len(s)); again != s || err != api.OK {
			t.Errorf("Expand(Greedy(%.20q)) = %.20q, %v", s, again, err)
		}
		packed, _ := lz.Pack(l)
		if again, err := lz.Read(packed); !slices.Equal(again, l) || err != api.OK {
			t.Errorf("Read(Pack(Greedy(%.20q))): %d tokens, %v", s, len(again), err)
		}
	}
}

var packings = []struct {
	l    []api.Token
	want string
}{
	{nil, ""},
	{[]api.Token{{}}, "\x00\x00"},
	{[]api.Token{{Lit: 'a'}}, "\x00a"},
	{[]api.Token{{Lit: 255}}, "\x00\xff"},
	{[]api.Token{{Len: 1, Dist: 1}}, "\x01\x01\x00"},
	{[]api.Token{{Len: 255, Dist: 1024}}, "\xff\x00\x04"},
	{[]api.Token{{Len: 16, Dist: 255}}, "\x10\xff\x00"},
	{[]api.Token{{Len: 16, Dist: 256}}, "\x10\x00\x01"},
	{[]api.Token{{Len: 128, Dist: 1023}}, "\x80\xff\x03"},
	{[]api.Token{{Len: 3, Dist: 0x102}}, "\x03\x02\x01"},
	{[]api.Token{{Lit: 'a'}, {Len: 3, Dist: 1}, {Lit: 'b'}}, "\x00a\x03\x01\x00\x00b"},
	{many(4096, letter('a')), strings.Repeat("\x00a", 4096)},
	{many(4096, copyOf(255, 1024)), strings.Repeat("\xff\x00\x04", 4096)},
}

func TestPack(t *testing.T) {
	for _, c := range packings {
		if s, err := lz.Pack(c.l); s != c.want || err != api.OK {
			t.Errorf("Pack(%.80v) = %.40q, %v, want %.40q", c.l[:min(5, len(c.l))], s, err, c.want)
		}
	}
}

func TestPackRefusesWhatCheckDoes(t *testing.T) {
	for _, l := range withWrong() {
		if s, err := lz.Pack(l); s != "" || err != api.ErrForm {
			t.Errorf("Pack(%d tokens, %v the last) = %.20q, %v, want %v alone", len(l), l[len(l)-1], s, err, api.ErrForm)
		}
	}
	for _, l := range tooMany() {
		if s, err := lz.Pack(l); s != "" || err != api.ErrLarge {
			t.Errorf("Pack(%d tokens) = %.20q, %v, want %v alone", len(l), s, err, api.ErrLarge)
		}
	}
}

// What Pack makes need not be what a text can be made of: a copy of nothing is
// told by Expand alone.
func TestRead(t *testing.T) {
	for _, c := range packings {
		if l, err := lz.Read(c.want); !slices.Equal(l, c.l) || err != api.OK {
			t.Errorf("Read(%.40q): %d tokens, %v", c.want, len(l), err)
		}
	}
}

func TestReadKnowsEveryLetter(t *testing.T) {
	for c := range 256 {
		s := string([]byte{0, byte(c)})
		if l, err := lz.Read(s); !slices.Equal(l, []api.Token{letter(byte(c))}) || err != api.OK {
			t.Errorf("Read(%q) = %v, %v", s, l, err)
		}
	}
}

func TestReadKnowsEveryLenAndDist(t *testing.T) {
	for n := 1; n < 256; n++ {
		for dist := range 1 << 16 {
			if dist > 1100 && dist%997 > 1 && n > 1 { // far out of the bounds some are enough
				continue
			}
			l, err := lz.Read(string([]byte{byte(n), byte(dist), byte(dist >> 8)}))
			right := 1 <= dist && dist <= 1024
			if right && (err != api.OK || !slices.Equal(l, []api.Token{copyOf(n, dist)})) || !right && (l != nil || err != api.ErrForm) {
				t.Fatalf("Read of Len %d, Dist %d = %v, %v", n, dist, l, err)
			}
		}
	}
}

func TestReadRefuses(t *testing.T) {
	full := strings.Repeat("\x00a", 4096)
	copies := strings.Repeat("\x01\x01\x00", 4096)
	for _, c := range []struct {
		s    string
		want api.Errno
	}{
		{"\x00", api.ErrShort},
		{"\x01", api.ErrShort},
		{"\xff", api.ErrShort},
		{"\x01\x01", api.ErrShort},
		{"\x01\x00", api.ErrShort}, // that a byte lacks is told ahead of what the Dist could be
		{"\xff\xff", api.ErrShort},
		{"\x00a\x00", api.ErrShort},
		{"\x00a\x03\x01", api.ErrShort},
		{"\x03\x01\x00\x00", api.ErrShort},
		{"\x01\x00\x00", api.ErrForm},
		{"\xff\x00\x00", api.ErrForm},
		{"\x01\x01\x04", api.ErrForm},
		{"\x01\x00\x05", api.ErrForm},
		{"\x01\xff\xff", api.ErrForm},
		{"\x00a\x01\x00\x00", api.ErrForm},
		{"\x01\x00\x00\x00", api.ErrForm}, // the first one that is met is told
		{"\x01\x00\x00" + full + "\x00b", api.ErrForm},
		{full + "\x00b", api.ErrLarge},
		{full + "\x01\x01\x00", api.ErrLarge},
		{copies + "\x00b", api.ErrLarge},
		{copies + copies, api.ErrLarge},
		{full + "\x00b\x00", api.ErrLarge},
		{full + "\x00b\x01\x00\x00", api.ErrLarge},
		// Of one token too many what is wrong with itself is told first.
		{full + "\x00", api.ErrShort},
		{full + "\x01\x01", api.ErrShort},
		{full + "\x01\x00\x00", api.ErrForm},
		{copies + "\x01\x01\x04", api.ErrForm},
		{full[:8190] + "\x00", api.ErrShort},
		{full[:8190] + "\x01\x00\x00\x00a", api.ErrForm},
	} {
		if l, err := lz.Read(c.s); l != nil || err != c.want {
			t.Errorf("Read(%d bytes, %.40q the last) = %d tokens, %v, want %v alone", len(c.s), c.s[max(0, len(c.s)-10):], len(l), err, c.want)
		}
	}
}
