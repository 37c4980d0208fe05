package walk_test

import (
	"math"
	"slices"
	"strings"
	"testing"

	"lumberroom/api"
	"lumberroom/walk"
)

// odd makes n bytes that look like no text: the same ones for each seed.
func odd(seed, n int) string {
	b := make([]byte, n)
	for i := range b {
		seed = (seed*1103515245 + 12345) % (1 << 31)
		b[i] = byte(seed >> 16)
	}
	return string(b)
}

func oddName(i int, o string) string {
	chars := []string{"a", "Z", " ", "~", "\u00f6", "\ufffd", "\U0001f600", "."}
	name := string([]byte{'0' + byte(i/10), '0' + byte(i%10)})
	for _, c := range []byte(o) {
		name += chars[c%8]
	}
	return name
}

// oddWorld is a world of so many items of all kinds, up to eight names deep;
// its files share some of what they have in them.
func oddWorld(seed, count int) []api.Item {
	var w []api.Item
	dirs, made := []string{""}, []int{0}
	for i := range count {
		o := odd(seed+i, 30)
		if o[0]%5 >= 3 && len(dirs) > 1 {
			dirs, made = dirs[:len(dirs)-1], made[:len(made)-1]
		}
		last := len(dirs) - 1
		path := dirs[last] + "/" + oddName(made[last], o[1:1+o[11]%5])
		made[last]++
		x := api.Item{Path: path, Kind: 1 + int(o[12])%3, Mode: (int(o[13])<<8 | int(o[14])) % 512}
		for _, c := range []byte(o[15:23]) {
			x.Time = x.Time<<8 | int(c)
		}
		x.Time >>= o[23] % 64
		switch x.Kind {
		case api.NFile:
			size := (int(o[24])<<8 | int(o[25])) % 4097
			if o[28]%4 != 0 {
				size %= 60
			}
			x.Bytes = odd(int(o[26])%4, size)
		case api.NDir:
			if len(dirs) < 8 {
				dirs, made = append(dirs, path), append(made, 0)
			}
		case api.NLink:
			x.Bytes = odd(seed+i+9, 1+int(o[27])%20)
		}
		w = append(w, x)
	}
	return w
}

func file(path, s string) api.Item { return api.Item{Path: path, Kind: api.NFile, Bytes: s} }

func dir(path string) api.Item { return api.Item{Path: path, Kind: api.NDir} }

func link(path, to string) api.Item { return api.Item{Path: path, Kind: api.NLink, Bytes: to} }

// with is x changed.
func with(x api.Item, change func(*api.Item)) api.Item {
	change(&x)
	return x
}

// chain is so many directories, each in the one ahead.
func chain(count int) []api.Item {
	var w []api.Item
	for i := range count {
		w = append(w, dir(strings.Repeat("/d", i+1)))
	}
	return w
}

// rising is a world each of whose paths comes behind all those ahead, though
// not if "/" were held against other bytes, and not by letters.
func rising() []api.Item {
	return []api.Item{
		dir("/ "), dir("/ / "), dir("/ / / "), file("/ / / /!", "x"), file("/ /!", "y"),
		link("/!", "z"), dir("/-"), file("/...", ""), file("/.a", ""), dir("/0"), file("/10", "10"), file("/9", "9"),
		dir("/A"), file("/A/z", "z"), dir("/Z"), file("/Zz", ""),
		dir("/a"), dir("/a/a"), file("/a/a/z", ""), file("/a/a!", ""), file("/a/a-", ""), dir("/a/b"), file("/a/b/a", ""), file("/a/z", ""),
		file("/a ", "\x00"), file("/a!", ""), dir("/a-"), file("/a-/b", ""), file("/a.", ""), file("/a0", ""), dir("/aa"), dir("/aa/a"), file("/aaaaaaaaaaaaaaaaaaaaaaaa", ""), file("/ab", ""),
		dir("/b"), link("/b/a", "/"), file("/ba", ""), file("/~", ""),
		file("/\u0080", ""), dir("/\u00f6"), link("/\u00f6/\u00f6", "\u00f6"), file("/\u0100", ""), file("/\u07ff", ""), file("/\u0800", ""), file("/\ud7ff", ""), dir("/\ue000"), file("/\uffff", ""), file("/\U00010000", ""), dir("/\U0010ffff"),
	}
}

// someWorlds may all be checked, and planted by all of someWays.
func someWorlds() [][]api.Item {
	long := strings.Repeat("l", 1024)
	all := [][]api.Item{
		nil,
		{},
		{file("/a", "")},
		{file("/a", "a")},
		{file("/a", odd(1, 4096))},
		{file("/a", odd(1, 4095)), dir("/b"), file("/b/a", odd(1, 4095)), file("/b/b", odd(1, 1000))},
		{file("/a", strings.Repeat("\x00", 4096))},
		{dir("/a")},
		{link("/a", "a")},
		{link("/a", "\x00")},
		{link("/a", long), link("/b", long), link("/c", long)},
		{link("/a", strings.Repeat("\x00", 1024))},
		{link("/a", "/../.\xff\n")},
		{dir("/a"), dir("/b"), dir("/c")},
		{dir("/a"), file("/a/x", "same"), dir("/b"), file("/b/x", "same")},
		{dir("/d"), file("/d/f", "0123456789abcdef0123456789abcdef!")},
		chain(8),
		append(chain(7), file("/d/d/d/d/d/d/d/f", "deep")),
		append(chain(8), file("/e", "")),
		{file("/"+strings.Repeat("\U0001f600", 24), "")},
		rising(),
	}
	for _, right := range []api.Item{file("/a", "b"), dir("/a"), link("/a", "b")} {
		for _, mode := range []int{0, 1, 255, 256, 420, 510, 511} {
			all = append(all, []api.Item{with(right, func(x *api.Item) { x.Mode = mode })})
		}
		for _, time := range []int{math.MinInt, -1 << 32, -257, -1, 0, 1, 255, 256, 4223371680, 1 << 62, math.MaxInt} {
			all = append(all, []api.Item{with(right, func(x *api.Item) { x.Time = time })})
		}
	}
	for _, size := range []int{1, 15, 16, 17, 31, 32, 33, 255, 256, 1023, 1024, 1025} {
		all = append(all, []api.Item{file("/a", odd(2, size)), file("/b", odd(3, size)), dir("/c"), file("/c/d", odd(2, size))})
	}
	return append(all, oddWorld(1, 5), oddWorld(2, 30), oddWorld(3, 60), oddWorld(40, 100))
}

func TestCheck(t *testing.T) {
	for _, w := range append(someWorlds(), oddWorld(500, 100), oddWorld(7, 99)) {
		if err := walk.Check(w); err != api.OK {
			t.Errorf("Check of %d items, %s: %v", len(w), few(w), err)
		}
		for n := range w {
			if err := walk.Check(w[:n]); err != api.OK {
				t.Errorf("Check of %d of %d items, %s: %v", n, len(w), few(w), err)
			}
		}
	}
}

// checkRefused: what Check tells is told by Plant too.
func checkRefused(t *testing.T, w []api.Item, want api.Errno) {
	t.Helper()
	if err := walk.Check(w); err != want {
		t.Fatalf("Check of %d items, %s: %v, want %v", len(w), few(w), err, want)
	}
	if l, root, err := walk.Plant(api.Way{Fixed: 16}, w); l != nil || root != (api.ID{}) || err != want {
		t.Fatalf("Plant of %d items, %s: %d blobs, %x, %v, want %v alone", len(w), few(w), len(l), root, err, want)
	}
}

func TestCheckRefusesTooManyItems(t *testing.T) {
	for _, count := range []int{101, 102, 128, 200, 256, 1 << 16} {
		checkRefused(t, oddWorld(0, count), api.ErrLarge)
		checkRefused(t, make([]api.Item, count), api.ErrLarge)
		checkRefused(t, slices.Repeat([]api.Item{dir("/a")}, count), api.ErrLarge)
	}
}

// fault is what may be wrong with an item, and the error that tells it.
type fault struct {
	of     string
	want   api.Errno
	change func(*api.Item)
}

// step are faults that Check tells in the same breath.
type step []fault

func pathSteps() step {
	var l step
	for _, c := range []struct {
		path string
		want api.Errno
	}{
		{"/", api.ErrName}, {"", api.ErrName}, {"a", api.ErrName}, {"~", api.ErrName}, {"a/b", api.ErrName}, {"//", api.ErrName}, {"//a", api.ErrName}, {"/a/", api.ErrName}, {"/~/", api.ErrName}, {"/a//b", api.ErrName},
		{"/.", api.ErrName}, {"/..", api.ErrName}, {"/./a", api.ErrName}, {"/~/..", api.ErrName}, {"/\x00", api.ErrName}, {"/~\n", api.ErrName}, {"/\x7f", api.ErrName}, {"/\xff", api.ErrName}, {"/\xed\xa0\x80", api.ErrName}, {"/~\xc3", api.ErrName}, {"\xff", api.ErrName},
		{"/" + strings.Repeat("~", 25), api.ErrLarge}, {"/" + strings.Repeat("\u00f6", 25), api.ErrLarge}, {"/~/" + strings.Repeat("~", 3000), api.ErrLarge}, {"/" + strings.Repeat("~", 25) + "/.", api.ErrLarge}, {"/./" + strings.Repeat("~", 25), api.ErrName},
		{strings.Repeat("/d", 9), api.ErrDeep}, {strings.Repeat("/~", 10), api.ErrDeep}, {strings.Repeat("/~", 8) + "/", api.ErrDeep}, {strings.Repeat("/~", 8) + "/.", api.ErrDeep}, {strings.Repeat("/~", 7) + "/./~", api.ErrName}, {strings.Repeat("/~", 3000), api.ErrDeep},
	} {
		l = append(l, fault{"path", c.want, func(x *api.Item) { x.Path = c.path }})
	}
	return l
}

func kindSteps() step {
	var l step
	for _, kind := range []int{math.MinInt, -1 << 32, -256, -255, -1, 0, 4, 5, 128, 255, 256, 257, 258, 259, 1<<32 + 1, math.MaxInt} {
		l = append(l, fault{"kind", api.ErrKind, func(x *api.Item) { x.Kind = kind }})
	}
	return l
}

func modeSteps() step {
	var l step
	for _, mode := range []int{math.MinInt, -1 << 32, -512, -511, -1, 512, 513, 1023, 1 << 32, math.MaxInt} {
		l = append(l, fault{"mode", api.ErrArg, func(x *api.Item) { x.Mode = mode }})
	}
	return l
}

func largeSteps() step {
	var l step
	for _, c := range []struct {
		kind  int
		sizes []int
	}{
		{api.NFile, []int{4097, 4098, 4352, 8192, 1 << 16}},
		{api.NDir, []int{1, 2, 256, 1024, 1025, 4096, 4097}},
		{api.NLink, []int{1025, 1026, 1280, 4096, 4097, 1 << 16}},
	} {
		for _, size := range c.sizes {
			l = append(l, fault{"size", api.ErrLarge, func(x *api.Item) { x.Kind, x.Bytes = c.kind, odd(size, size) }})
		}
	}
	return append(l, fault{"size", api.ErrLarge, func(x *api.Item) { x.Kind, x.Bytes = api.NDir, "\x00" }})
}

func linkSteps() step {
	return step{{"link", api.ErrForm, func(x *api.Item) { x.Kind, x.Bytes = api.NLink, "" }}}
}

// orderSteps are of paths that come ahead of all others, be their parent there
// or not.
func orderSteps() step {
	var l step
	for _, path := range []string{"/ ", "/ /a", "/ / ", "/ / / / / / / / "} {
		l = append(l, fault{"order", api.ErrForm, func(x *api.Item) { x.Path = path }})
	}
	return l
}

// parentSteps are of paths that come behind all others.
func parentSteps() step {
	var l step
	for _, path := range []string{"/\U0010ffff/a", "/\U0010ffff/\U0010ffff", "/\U0010ffff/a/a/a/a/a/a/a"} {
		l = append(l, fault{"parent", api.ErrNone, func(x *api.Item) { x.Path = path }})
	}
	return l
}

// steps are in the order in which Check takes them.
func steps() []step {
	return []step{pathSteps(), kindSteps(), modeSteps(), largeSteps(), linkSteps(), orderSteps(), parentSteps()}
}

func TestCheckRefusesAWrongItem(t *testing.T) {
	for at := range 100 {
		w := oddWorld(at, 100)
		right := w[at]
		for _, s := range steps() {
			for _, f := range s {
				if f.of == "order" && at == 0 {
					continue
				}
				w[at] = with(right, f.change)
				checkRefused(t, w, f.want)
			}
		}
	}
}

// Of two faults of one item the one of the earlier step is told.
func TestCheckTellsTheFirstErrorOfAnItem(t *testing.T) {
	all := steps()
	for i, earlier := range all {
		for _, later := range all[i+1:] {
			for _, f := range earlier {
				for _, g := range later {
					x := with(file("/b", "b"), func(x *api.Item) { g.change(x); f.change(x) })
					checkRefused(t, []api.Item{dir("/a"), x}, f.want)
				}
			}
		}
	}
}

// Of two items the first one's fault is told, be it of a later step.
func TestCheckTellsTheFirstItemsError(t *testing.T) {
	for _, s := range steps() {
		f := s[len(s)-1]
		for _, other := range steps() {
			g := other[0]
			w := []api.Item{dir("/a"), with(file("/b", "b"), f.change), with(file("/c", "c"), g.change), dir("/d")}
			checkRefused(t, w, f.want)
			checkRefused(t, append(w, make([]api.Item, 96)...), f.want)
			checkRefused(t, append(w, make([]api.Item, 97)...), api.ErrLarge)
		}
	}
}

func TestCheckRefusesPathsThatDoNotRise(t *testing.T) {
	w := rising()
	for n := 1; n <= len(w); n++ {
		for _, x := range w[:n] {
			checkRefused(t, append(w[:n:n], x), api.ErrForm)
			checkRefused(t, append(w[:n:n], with(x, func(x *api.Item) { x.Kind, x.Bytes = api.NLink, "l" })), api.ErrForm)
		}
	}
	// A thing stands behind its directory with nothing else in between.
	checkRefused(t, []api.Item{dir("/a"), file("/a!", ""), file("/a/b", "")}, api.ErrForm)
	checkRefused(t, []api.Item{file("/a", ""), file("/c", ""), file("/b", "")}, api.ErrForm)
	checkRefused(t, []api.Item{dir("/a"), file("/a/b", ""), dir("/a")}, api.ErrForm)
	checkRefused(t, []api.Item{file("/a/b", "")}, api.ErrNone)
}

func TestCheckRefusesAnItemWithoutItsDirectory(t *testing.T) {
	for i, w := range [][]api.Item{
		{file("/a/b", "")},
		{dir("/a/b")},
		{link("/a/b", "l")},
		{file("/a", ""), file("/a/b", "")},
		{link("/a", "/"), file("/a/b", "")},
		{dir("/a"), file("/a/b/c", "")},
		{dir("/a"), file("/a/b", ""), file("/a/b/c", "")},
		{dir("/a"), link("/a/b", "/a"), dir("/a/b/c")},
		{dir("/a"), file("/ab/c", "")},
		{dir("/ab"), file("/b/c", "")},
		{dir("/ab"), file("/abc/d", "")},
		{dir("/a"), file("/b/a/c", "")},
		{dir("/b"), file("/b/b/c", "")},
		{dir("/a"), dir("/a/b"), file("/b/c", "")},
		{dir("/a"), dir("/a/b"), dir("/a/b/c"), file("/a/c/c", "")},
		{dir("/a"), dir("/a/b"), dir("/b"), file("/b/b/c", "")},
		append(chain(6), file("/d/d/d/d/d/d/d/d", "")),
	} {
		if err := walk.Check(w); err != api.ErrNone {
			t.Errorf("case %d: Check(%v) = %v, want ErrNone", i, w, err)
		}
		checkRefused(t, w, api.ErrNone)
	}
	// No directory of a world is needed but by what it has.
	w := oddWorld(40, 100)
	for i, x := range w {
		left := slices.Concat(w[:i], w[i+1:])
		want := api.OK
		if i+1 < len(w) && strings.HasPrefix(w[i+1].Path, x.Path+"/") {
			want = api.ErrNone
		}
		if err := walk.Check(left); err != want {
			t.Errorf("Check without %q: %v, want %v", x.Path, err, want)
		}
	}
}

func TestCheckWordByWord(t *testing.T) {
	for _, w := range someWorlds() {
		checkCheck(t, w)
		for i := range w {
			for k := range min(i+3, len(w)) {
				swapped := slices.Clone(w)
				swapped[i], swapped[k] = swapped[k], swapped[i]
				checkCheck(t, swapped)
				swapped[i].Path = w[i].Path
				checkCheck(t, swapped)
			}
		}
	}
}
