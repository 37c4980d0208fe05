package delta_test

import (
	"fmt"
	"hash/crc32"
	"slices"
	"testing"

	"lumberroom/api"
	"lumberroom/delta"
)

func TestJoin(t *testing.T) {
	x, y := there(file("/a", "x")), there(file("/a", "y"))
	for i, c := range []struct{ l, m, want []api.Edit }{
		{nil, nil, nil},
		{nil, []api.Edit{}, nil},
		{[]api.Edit{x}, nil, []api.Edit{x}},
		{nil, []api.Edit{x}, []api.Edit{x}},
		{[]api.Edit{x}, []api.Edit{x}, []api.Edit{x}},
		// Of one path m's stays.
		{[]api.Edit{x}, []api.Edit{y}, []api.Edit{y}},
		{[]api.Edit{y}, []api.Edit{x}, []api.Edit{x}},
		{[]api.Edit{x}, []api.Edit{gone("/a")}, []api.Edit{gone("/a")}},
		{[]api.Edit{gone("/a")}, []api.Edit{x}, []api.Edit{x}},
		{[]api.Edit{gone("/a")}, []api.Edit{gone("/a")}, []api.Edit{gone("/a")}},
		{[]api.Edit{there(api.Item{Path: "/a", Kind: 9, Mode: -1})}, []api.Edit{there(api.Item{Path: "/a"})}, []api.Edit{there(api.Item{Path: "/a"})}},
		{[]api.Edit{gone("/")}, []api.Edit{there(dir("/"))}, []api.Edit{there(dir("/"))}},
		// What l says to be gone is told, though it may not have been there.
		{[]api.Edit{gone("/b")}, []api.Edit{x}, []api.Edit{x, gone("/b")}},
		{[]api.Edit{x}, []api.Edit{gone("/a/b")}, []api.Edit{x, gone("/a/b")}},
		// The order of paths is not that of texts.
		{[]api.Edit{gone("/"), gone("/a"), gone("/a!")}, []api.Edit{gone("/ "), gone("/a/b"), gone("/a0")}, []api.Edit{gone("/"), gone("/ "), gone("/a"), gone("/a/b"), gone("/a!"), gone("/a0")}},
		{[]api.Edit{gone("/ "), gone("/a/b"), gone("/a0")}, []api.Edit{gone("/"), gone("/a"), gone("/a!")}, []api.Edit{gone("/"), gone("/ "), gone("/a"), gone("/a/b"), gone("/a!"), gone("/a0")}},
		{
			[]api.Edit{gone("/a"), there(dir("/b")), gone("/b/c"), there(file("/d", "l"))},
			[]api.Edit{there(link("/a/b", "m")), gone("/b"), there(file("/b/c", "m")), gone("/b/d")},
			[]api.Edit{gone("/a"), there(link("/a/b", "m")), gone("/b"), there(file("/b/c", "m")), gone("/b/d"), there(file("/d", "l"))},
		},
	} {
		if l, err := delta.Join(c.l, c.m); !slices.Equal(l, c.want) || err != api.OK {
			t.Errorf("case %d: %v, %v, want %v", i, l, err, c.want)
		}
		checkJoin(t, c.l, c.m)
		checkJoin(t, c.m, c.l)
	}
}

func TestJoinWordByWord(t *testing.T) {
	for _, l := range someLists() {
		for _, m := range someLists() {
			checkJoin(t, l, m)
		}
	}
	for seed := range 300 {
		checkJoin(t, oddEdits(seed), oddEdits(2*seed+1))
		checkJoin(t, oddEdits(seed), thereAll(oddWorld(seed)))
	}
}

func TestJoinRefusesTooManyEdits(t *testing.T) {
	edits := func(first, count int) []api.Edit { return goneAll(numbered(first, count)) }
	for _, c := range []struct {
		l, m []api.Edit
		want int // 0: they are too many
	}{
		{edits(0, 200), nil, 200},
		{edits(0, 100), edits(100, 100), 200},
		{edits(0, 200), edits(0, 200), 200},
		{edits(0, 200), edits(199, 1), 200},
		{edits(1, 199), edits(0, 1), 200},
		{edits(0, 150), edits(50, 150), 200},
		{edits(0, 200), edits(200, 1), 0},
		{edits(1, 200), edits(0, 1), 0},
		{edits(0, 101), edits(101, 100), 0},
		{edits(0, 200), edits(1, 200), 0},
		{edits(0, 200), edits(200, 200), 0},
		{edits(0, 200), []api.Edit{gone("/")}, 0},
	} {
		wrong := api.OK
		if c.want == 0 {
			wrong = api.ErrLarge
		}
		for _, pair := range [][2][]api.Edit{{c.l, c.m}, {c.m, c.l}} {
			if l, err := delta.Join(pair[0], pair[1]); len(l) != c.want || err != wrong || wrong != api.OK && l != nil {
				t.Errorf("Join of %d and %d edits: %d, %v, want %d, %v", len(pair[0]), len(pair[1]), len(l), err, c.want, wrong)
			}
			checkJoin(t, pair[0], pair[1])
		}
	}
}

func TestJoinTellsTheFirstError(t *testing.T) {
	for _, l := range wrongLists() {
		for _, m := range wrongLists() {
			if got, err := delta.Join(l.l, m.l); got != nil || err != l.want {
				t.Errorf("Join of %s and %s: %v, %v, want %v alone", few(l.l), few(m.l), got, err, l.want)
			}
		}
		checkRefused(t, l.l, l.want)
	}
}

// Join does at once what two lists do one behind the other.
func TestJoinAppliesAtOnce(t *testing.T) {
	checkAtOnce := func(a []api.Item, l, m []api.Edit) (both bool) {
		between, err := delta.Apply(a, l)
		if err != api.OK {
			return false
		}
		joined, err := delta.Join(l, m)
		if err != api.OK {
			t.Fatalf("Join of %s and %s: %v", few(l), few(m), err)
		}
		want, wrong := delta.Apply(between, m)
		got, err := delta.Apply(a, joined)
		if !slices.Equal(got, want) || err != wrong {
			t.Fatalf("Apply to %s of %s and %s, at once: %s, %v, want %s, %v", few(a), few(l), few(m), few(got), err, few(want), wrong)
		}
		return err == api.OK
	}
	worlds := []([]api.Item){nil, {dir("/a")}, {dir("/a"), file("/a/b", "y"), file("/a!", "y")}, {link("/a", "x"), dir("/a!")}}
	made := 0
	for _, a := range worlds {
		eachSmallList(func(l []api.Edit) {
			eachSmallList(func(m []api.Edit) {
				if checkAtOnce(a, l, m) {
					made++
				}
			})
		})
	}
	if made < 2000 {
		t.Errorf("only %d worlds were made", made)
	}
	for seed := range 40 {
		a, b, c := oddWorld(seed), oddWorld(seed+100), oddWorld(seed+200)
		l, _ := delta.Diff(a, b)
		m, _ := delta.Diff(b, c)
		if !checkAtOnce(a, l, m) {
			t.Errorf("seed %d: from a world to another, and on to a third one, is refused", seed)
		}
	}
}

// It makes no difference which two of three lists are joined first.
func TestJoinOfThree(t *testing.T) {
	for seed := range 100 {
		l, m, n := oddEdits(seed), oddEdits(seed+100), oddEdits(seed+200)
		lm, _ := delta.Join(l, m)
		mn, _ := delta.Join(m, n)
		front, wrong := delta.Join(lm, n)
		back, err := delta.Join(l, mn)
		if !slices.Equal(front, back) || wrong != api.OK || err != api.OK {
			t.Errorf("seed %d: %v, %v or %v, %v", seed, front, wrong, back, err)
		}
	}
}

// These were worked out by another program.
func TestJoinOfAllSmallLists(t *testing.T) {
	var answers []byte
	count := 0
	eachSmallList(func(l []api.Edit) {
		eachSmallList(func(m []api.Edit) {
			checkJoin(t, l, m)
			joined, err := delta.Join(l, m)
			answers = fmt.Appendf(answers, "%d %d\n%s", err, len(joined), linesOfEdits(joined))
			count++
		})
	})
	if sum := crc32.ChecksumIEEE(answers); count != 15625 || sum != 0x58a3c822 {
		t.Errorf("%d answers, checksum %x", count, sum)
	}
}
