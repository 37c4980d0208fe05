package walk_test

import (
	"slices"
	"strings"
	"testing"

	"lumberroom/api"
	"lumberroom/tree"
	"lumberroom/walk"
)

func planted(t testing.TB, way api.Way, w []api.Item) ([]api.Blob, api.ID) {
	t.Helper()
	l, root, err := walk.Plant(way, w)
	if err != api.OK {
		t.Fatalf("Plant by %v of %d items: %v", way, len(w), err)
	}
	return l, root
}

func checkReaped(t *testing.T, l []api.Blob, root api.ID, want []api.Item) {
	t.Helper()
	if w, err := walk.Reap(l, root); !slices.Equal(w, want) || err != api.OK {
		t.Fatalf("Reap of %d blobs: %s (%d), %v, want %s (%d)", len(l), few(w), len(w), err, few(want), len(want))
	}
}

func checkReapRefuses(t *testing.T, l []api.Blob, root api.ID, want api.Errno) {
	t.Helper()
	if w, err := walk.Reap(l, root); w != nil || err != want {
		t.Fatalf("Reap of %x from %d blobs, %s: %d items, %v, want %v alone", root, len(l), few(l), len(w), err, want)
	}
}

// The order of the blobs, blobs that are there again, and others are nothing to
// it.
func TestReapTellsWhatWasPlanted(t *testing.T) {
	others := []api.Blob{data("other"), snap("other"), {Kind: api.KTree, Bytes: "no directory"}, treeOf(t, api.Node{Name: "other", Kind: api.NFile}), snap("")}
	for _, w := range someWorlds() {
		for _, way := range someWays {
			l, root := planted(t, way, w)
			checkReaped(t, l, root, w)
			slices.Reverse(l)
			checkReaped(t, l, root, w)
			checkReaped(t, append(others, l...), root, w)
			checkReaped(t, slices.Concat(l[len(l)/2:], others, l[:len(l)/2], others), root, w)
			if 2*len(l) <= 1000 {
				checkReaped(t, append(l, l...), root, w)
			}
		}
	}
}

// The blobs of several worlds may lie together; each directory is a root too.
func TestReapTellsTheRootsWorld(t *testing.T) {
	way := api.Way{Fixed: 100}
	w, v := oddWorld(2, 30), oddWorld(90, 40)
	l, first := planted(t, way, w)
	more, second := planted(t, way, v)
	l = append(l, more...)
	checkReaped(t, l, first, w)
	checkReaped(t, l, second, v)
	for _, x := range w {
		if x.Kind != api.NDir {
			continue
		}
		var below []api.Item
		for _, y := range w {
			if rest, in := strings.CutPrefix(y.Path, x.Path+"/"); in {
				below = append(below, with(y, func(y *api.Item) { y.Path = "/" + rest }))
			}
		}
		small, root := planted(t, way, below)
		checkReaped(t, small, root, below)
		checkReaped(t, l, root, below)
	}
}

// Each blob that was planted is needed.
func TestReapTellsThatABlobIsNotThere(t *testing.T) {
	for _, w := range someWorlds() {
		for _, way := range []api.Way{{Fixed: 100}, {Cut: api.Cut{Min: 64, Max: 1024, Bits: 12}}} {
			l, root := planted(t, way, w)
			for i := range l {
				checkReapRefuses(t, slices.Concat(l[:i], l[i+1:]), root, api.ErrNone)
			}
		}
	}
	for _, root := range []api.ID{{}, {1}, {255, 255, 255, 255, 255, 255, 255, 255}} {
		checkReapRefuses(t, nil, root, api.ErrNone)
		checkReapRefuses(t, []api.Blob{treeOf(t)}, root, api.ErrNone)
	}
	for at := range 8 {
		root := idOf(treeOf(t))
		root[at]++
		checkReapRefuses(t, []api.Blob{treeOf(t)}, root, api.ErrNone)
	}
}

func letters(count int) []api.Blob {
	var l []api.Blob
	for i := range count {
		l = append(l, data(string([]byte{byte(i), byte(i >> 8)})))
	}
	return l
}

func TestReapRefusesTooManyBlobs(t *testing.T) {
	b := treeOf(t)
	root := idOf(b)
	for _, count := range []int{999, 1000} {
		checkReaped(t, append(letters(count-1), b), root, nil)
		checkReaped(t, slices.Repeat([]api.Blob{b}, count), root, nil)
	}
	wrong := []api.Blob{{Kind: 9}, data(odd(1, 4097)), b, clash(t, b, 20)}
	for _, count := range []int{1001, 1002, 1024, 1 << 16} {
		checkReapRefuses(t, append(letters(count-1), b), root, api.ErrLarge)
		checkReapRefuses(t, slices.Repeat([]api.Blob{b}, count), root, api.ErrLarge)
		checkReapRefuses(t, append(wrong, letters(count-4)...), root, api.ErrLarge)
		checkReapRefuses(t, letters(count), root, api.ErrLarge)
	}
	// More than that may well be planted.
	var w []api.Item
	for _, path := range []string{"/a", "/b", "/c", "/d"} {
		w = append(w, dir(path), file(path+"/f", path+odd(len(w), 4094)))
	}
	l, root := planted(t, api.Way{Fixed: 16}, w)
	if len(l) <= 1000 {
		t.Fatalf("only %d blobs", len(l))
	}
	checkReapRefuses(t, l, root, api.ErrLarge)
}

// What is wrong with any blob is told, be it one that nobody needs, ahead of
// all that is read.
func TestReapRefusesAWrongBlob(t *testing.T) {
	l, root := planted(t, api.Way{Fixed: 16}, oddWorld(2, 30))
	a := data("a")
	for _, c := range []struct {
		wrong []api.Blob
		want  api.Errno
	}{
		{[]api.Blob{{Kind: 0}}, api.ErrKind},
		{[]api.Blob{{Kind: 4}}, api.ErrKind},
		{[]api.Blob{{Kind: 257, Bytes: "a"}}, api.ErrKind},
		{[]api.Blob{{Kind: -1, Bytes: odd(1, 4097)}}, api.ErrKind},
		{[]api.Blob{data(odd(1, 4097))}, api.ErrLarge},
		{[]api.Blob{snap(odd(1, 5000))}, api.ErrLarge},
		{[]api.Blob{{Kind: api.KTree, Bytes: odd(1, 4097)}}, api.ErrLarge},
		{[]api.Blob{a, clash(t, a, 15)}, api.ErrClash},
		{[]api.Blob{clash(t, a, 15), a}, api.ErrClash},
		{[]api.Blob{a, a, clash(t, a, 15)}, api.ErrClash},
		{[]api.Blob{clash(t, l[3], 15)}, api.ErrClash},
		{[]api.Blob{clash(t, l[len(l)-1], 1024)}, api.ErrClash},
		{[]api.Blob{a, clash(t, a, 15), {Kind: 9}}, api.ErrClash},
		{[]api.Blob{a, {Kind: 9}, clash(t, a, 15)}, api.ErrKind},
		{[]api.Blob{data(odd(1, 4097)), {Kind: 9}}, api.ErrLarge},
		{[]api.Blob{{Kind: 9}, data(odd(1, 4097)), a, clash(t, a, 15)}, api.ErrKind},
	} {
		checkReapRefuses(t, append(l[:len(l):len(l)], c.wrong...), root, c.want)
		checkReapRefuses(t, append(l[:len(l):len(l)], c.wrong...), api.ID{}, c.want)
		for _, at := range []int{1, len(l) / 2, len(l) - 1} {
			checkReap(t, slices.Insert(slices.Clone(l), at, c.wrong...), root)
		}
	}
	// Unlike Kinds of the same bytes have IDs of their own.
	checkReaped(t, append(l, data(l[len(l)-1].Bytes), snap(l[len(l)-1].Bytes), snap(l[0].Bytes)), root, oddWorld(2, 30))
}

func fileNode(name string, size int, parts ...api.ID) api.Node {
	return api.Node{Name: name, Kind: api.NFile, Size: size, Parts: parts}
}

func dirNode(name string, id api.ID) api.Node {
	return api.Node{Name: name, Kind: api.NDir, Parts: []api.ID{id}}
}

func linkNode(name string) api.Node { return api.Node{Name: name, Kind: api.NLink, Link: "l"} }

// wrongDirectories are blobs that are no directory, and why.
func wrongDirectories(t testing.TB) map[api.Blob]api.Errno {
	right := treeOf(t, fileNode("a", 0), fileNode("b", 0)).Bytes
	l := map[api.Blob]api.Errno{
		data(right): api.ErrKind, snap(right): api.ErrKind, data("\x00"): api.ErrKind, snap("\x00"): api.ErrKind,
	}
	for _, s := range []string{"", "\x01", "\x00\x00", "\xff", right[:len(right)-1], right + "\x00", strings.Replace(right, "b", "a", 1), strings.Replace(right, "a", "/", 1), strings.Replace(right, "\x01\x00", "\x04\x00", 1), odd(1, 100), odd(1, 4096)} {
		_, err := tree.Read(s)
		if err == api.OK {
			t.Fatalf("%.60q is a directory", s)
		}
		l[api.Blob{Kind: api.KTree, Bytes: s}] = err
	}
	return l
}

func TestReapRefusesAWrongDirectory(t *testing.T) {
	for b, want := range wrongDirectories(t) {
		id := idOf(b)
		checkReapRefuses(t, []api.Blob{b}, id, want)
		// Where nobody asks for it, it is nothing.
		whole := treeOf(t, fileNode("a", 0), linkNode("l"))
		checkReaped(t, []api.Blob{b, whole}, idOf(whole), []api.Item{file("/a", ""), link("/l", "l")})
		l := []api.Blob{b}
		for depth := 1; depth <= 8; depth++ {
			last := treeOf(t, fileNode("a", 0), dirNode("b", id), linkNode("c"))
			l = append(l, last)
			id = idOf(last)
			checkReapRefuses(t, l, id, want)
			checkReapRefuses(t, l[1:], id, api.ErrNone)
		}
		last := treeOf(t, dirNode("b", id))
		checkReapRefuses(t, append(l, last), idOf(last), api.ErrDeep)
	}
}

func TestReapRefusesAPathThatIsTooDeep(t *testing.T) {
	ends := treeOf(t)
	for _, n := range []api.Node{fileNode("n", 0), linkNode("n"), dirNode("n", idOf(ends)), fileNode("n", 9, api.ID{1}), dirNode("n", api.ID{1})} {
		b := treeOf(t, n)
		l := []api.Blob{ends, b}
		id := idOf(b)
		for names := 2; names <= 12; names++ {
			b = treeOf(t, dirNode("d", id))
			l, id = append(l, b), idOf(b)
			checkReap(t, l, id)
			if names >= 9 {
				checkReapRefuses(t, l, id, api.ErrDeep)
			}
		}
	}
	// Eight names are not too deep, also of a directory that is empty.
	l, root := planted(t, someWays[0], chain(8))
	checkReaped(t, l, root, chain(8))
}

// A directory may have itself below it, as long as digests may be tuned.
func TestReapEndsWhereADirectoryHasItself(t *testing.T) {
	for seed := range 10 {
		id := api.ID([]byte(odd(seed, 8)))
		var nodes []api.Node
		for i := range 60 {
			nodes = append(nodes, fileNode(oddName(i, ""), 0))
		}
		b := selfish(t, id, nodes[:seed]...)
		checkReapRefuses(t, []api.Blob{b}, id, api.ErrDeep)
		checkReapRefuses(t, []api.Blob{b, b}, id, api.ErrDeep)
		b = selfish(t, id, nodes...)
		checkReapRefuses(t, []api.Blob{b}, id, api.ErrLarge)
		whole := treeOf(t, dirNode("d", id))
		checkReapRefuses(t, []api.Blob{whole, b}, idOf(whole), api.ErrLarge)
		checkReap(t, []api.Blob{whole, b}, id)
	}
	// Just 100 items are told ahead of the path that is too deep; with one more
	// it is the items that are too many.
	id := api.ID{1, 2, 3}
	for count := range 20 {
		var nodes []api.Node
		for i := range count {
			nodes = append(nodes, fileNode(oddName(i, ""), 0))
		}
		want := api.ErrDeep
		if 8*(count+1) > 100 {
			want = api.ErrLarge
		}
		checkReapRefuses(t, []api.Blob{selfish(t, id, nodes...)}, id, want)
	}
}

// sprawling is a world of so many items in blobs: more than 64 of them take two
// directories, of which the last node stands in the second one.
func sprawling(t testing.TB, count int, last api.Node) ([]api.Blob, api.ID) {
	t.Helper()
	var below, nodes []api.Node
	for i := range 50 {
		below = append(below, fileNode(oddName(i, ""), 0))
	}
	second := treeOf(t, below...)
	nodes = append(nodes, dirNode(" ", idOf(second)))
	for i := range count - 52 {
		nodes = append(nodes, fileNode(oddName(i, ""), 0))
	}
	root := treeOf(t, append(nodes, last)...)
	return []api.Blob{second, root}, idOf(root)
}

func TestReapRefusesTooManyItems(t *testing.T) {
	empty := treeOf(t)
	full := treeOf(t, fileNode("f", 0))
	lasts := []api.Node{fileNode("z", 0), linkNode("z"), dirNode("z", idOf(empty))}
	for _, n := range lasts {
		for _, count := range []int{98, 99, 100} {
			l, root := sprawling(t, count, n)
			l = append(l, empty)
			if w, err := walk.Reap(l, root); len(w) != count || err != api.OK {
				t.Errorf("Reap of %d items: %d, %v", count, len(w), err)
			}
			checkReap(t, l, root)
		}
	}
	// Of the 101st item nothing else is told.
	for _, n := range append(lasts, fileNode("z", 5), fileNode("z", 0, api.ID{1}), dirNode("z", api.ID{1}), dirNode("z", idOf(data("x")))) {
		for _, count := range []int{101, 102, 110} {
			l, root := sprawling(t, count, n)
			checkReapRefuses(t, append(l, empty, data("x")), root, api.ErrLarge)
		}
	}
	// The 100th is a directory: it is told, and read.
	for _, c := range []struct {
		id   api.ID
		want api.Errno
	}{
		{idOf(full), api.ErrLarge},
		{api.ID{1}, api.ErrNone},
		{idOf(data("x")), api.ErrKind},
		{idOf(api.Blob{Kind: api.KTree, Bytes: "\xff"}), api.ErrForm},
	} {
		l, root := sprawling(t, 100, dirNode("z", c.id))
		checkReapRefuses(t, append(l, empty, full, data("x"), api.Blob{Kind: api.KTree, Bytes: "\xff"}), root, c.want)
	}
	// The same directory counts each time.
	var nodes []api.Node
	for i := range 64 {
		nodes = append(nodes, fileNode(oddName(i, ""), 0))
	}
	many := treeOf(t, nodes[:49]...)
	twice := treeOf(t, dirNode("a", idOf(many)), dirNode("b", idOf(many)))
	if w, err := walk.Reap([]api.Blob{many, twice}, idOf(twice)); len(w) != 100 || err != api.OK {
		t.Errorf("49 items twice are %d, %v", len(w), err)
	}
	many = treeOf(t, nodes[:50]...)
	twice = treeOf(t, dirNode("a", idOf(many)), dirNode("b", idOf(many)))
	checkReapRefuses(t, []api.Blob{many, twice}, idOf(twice), api.ErrLarge)
}

// A path that is too deep is told ahead of items that are too many.
func TestReapTellsDepthFirst(t *testing.T) {
	deep := treeOf(t, linkNode("l"))
	l := []api.Blob{deep}
	for range 7 {
		deep = treeOf(t, dirNode("d", idOf(deep)))
		l = append(l, deep)
	}
	// There are 8 items on the way down to the ninth name.
	for count := 90; count <= 101; count++ {
		more, root := sprawling(t, count, dirNode("z", idOf(deep)))
		want := api.ErrDeep
		if count+7 > 100 {
			want = api.ErrLarge
		}
		checkReapRefuses(t, append(more, l...), root, want)
	}
}

func TestReapReadsPiecesOfAFile(t *testing.T) {
	ab, c, none := data("ab"), data("c"), data("")
	notData := []api.Blob{snap("ab"), {Kind: api.KTree, Bytes: "ab"}, treeOf(t)}
	l := append([]api.Blob{ab, c, none}, notData...)
	lost := api.ID{1}
	for i, x := range []struct {
		n     api.Node
		bytes string
		want  api.Errno
	}{
		{fileNode("f", 0), "", api.OK},
		{fileNode("f", 0, idOf(none)), "", api.OK},
		{fileNode("f", 0, idOf(none), idOf(none)), "", api.OK},
		{fileNode("f", 2, idOf(ab)), "ab", api.OK},
		{fileNode("f", 3, idOf(ab), idOf(c)), "abc", api.OK},
		{fileNode("f", 3, idOf(c), idOf(ab)), "cab", api.OK},
		{fileNode("f", 4, idOf(ab), idOf(ab)), "abab", api.OK},
		{fileNode("f", 3, idOf(none), idOf(ab), idOf(none), idOf(c), idOf(none)), "abc", api.OK},
		{fileNode("f", 300, slices.Repeat([]api.ID{idOf(c)}, 300)...), strings.Repeat("c", 300), api.OK},
		{fileNode("f", 299, slices.Repeat([]api.ID{idOf(c)}, 300)...), "", api.ErrForm},
		{fileNode("f", 301, slices.Repeat([]api.ID{idOf(c)}, 300)...), "", api.ErrForm},
		// Fewer, or more, than its Size.
		{fileNode("f", 1), "", api.ErrForm},
		{fileNode("f", 4096), "", api.ErrForm},
		{fileNode("f", 1, idOf(none)), "", api.ErrForm},
		{fileNode("f", 3, idOf(ab)), "", api.ErrForm},
		{fileNode("f", 1, idOf(ab)), "", api.ErrForm},
		{fileNode("f", 0, idOf(ab)), "", api.ErrForm},
		{fileNode("f", 0, idOf(none), idOf(c)), "", api.ErrForm},
		{fileNode("f", 2, idOf(ab), idOf(c)), "", api.ErrForm},
		// Pieces that are not there, or of another Kind.
		{fileNode("f", 0, lost), "", api.ErrNone},
		{fileNode("f", 9, idOf(ab), lost), "", api.ErrNone},
		{fileNode("f", 2, idOf(ab), lost), "", api.ErrNone},
		{fileNode("f", 9, lost, idOf(notData[0])), "", api.ErrNone},
		{fileNode("f", 2, idOf(notData[0])), "", api.ErrKind},
		{fileNode("f", 2, idOf(notData[1])), "", api.ErrKind},
		{fileNode("f", 1, idOf(notData[2])), "", api.ErrKind},
		{fileNode("f", 0, idOf(notData[0])), "", api.ErrKind},
		{fileNode("f", 9, idOf(notData[1]), lost), "", api.ErrKind},
		{fileNode("f", 2, idOf(ab), idOf(notData[1])), "", api.ErrKind},
		// As soon as there are more bytes no further piece is asked for.
		{fileNode("f", 1, idOf(ab), lost), "", api.ErrForm},
		{fileNode("f", 1, idOf(ab), idOf(notData[0])), "", api.ErrForm},
		{fileNode("f", 2, idOf(ab), idOf(c), lost), "", api.ErrForm},
		{fileNode("f", 2, idOf(ab), idOf(none), lost), "", api.ErrNone},
	} {
		root := treeOf(t, x.n)
		heap := append(l[:len(l):len(l)], root)
		var want []api.Item
		if x.want == api.OK {
			want = []api.Item{file("/f", x.bytes)}
		}
		if w, err := walk.Reap(heap, idOf(root)); !slices.Equal(w, want) || err != x.want {
			t.Errorf("case %d: %v, %v, want %v, %v", i, w, err, want, x.want)
		}
		checkReap(t, heap, idOf(root))
	}
	// A file's pieces may be longer than any way makes them, up to 4096 bytes.
	long := data(odd(5, 4096))
	root := treeOf(t, fileNode("f", 4096, idOf(long)))
	checkReaped(t, []api.Blob{long, root}, idOf(root), []api.Item{file("/f", long.Bytes)})
	root = treeOf(t, fileNode("f", 4096, idOf(long), idOf(none), idOf(c), lost))
	checkReapRefuses(t, []api.Blob{long, root, none, c}, idOf(root), api.ErrForm)
}

// What stands ahead is told first, also where it lies deeper.
func TestReapTellsTheFirstError(t *testing.T) {
	ab := data("ab")
	wrong := api.Blob{Kind: api.KTree, Bytes: "\xff"}
	short := fileNode("s", 3, idOf(ab))
	type told struct {
		n    api.Node
		want api.Errno
	}
	var blobs []api.Blob
	var all []told
	for _, x := range []told{
		{short, api.ErrForm},
		{fileNode("s", 2, api.ID{1}), api.ErrNone},
		{fileNode("s", 2, idOf(wrong)), api.ErrKind},
		{dirNode("s", api.ID{1}), api.ErrNone},
		{dirNode("s", idOf(ab)), api.ErrKind},
		{dirNode("s", idOf(wrong)), api.ErrForm},
		{dirNode("s", idOf(api.Blob{Kind: api.KTree, Bytes: ""})), api.ErrShort},
	} {
		below := treeOf(t, fileNode("a", 2, idOf(ab)), x.n)
		blobs = append(blobs, below)
		all = append(all, x, told{dirNode("s", idOf(below)), x.want})
	}
	blobs = append(blobs, ab, wrong, api.Blob{Kind: api.KTree})
	for _, x := range all {
		for _, y := range all {
			first, second := x.n, y.n
			first.Name, second.Name = "p", "q"
			root := treeOf(t, linkNode("a"), first, linkNode("p!"), second)
			checkReapRefuses(t, append(blobs[:len(blobs):len(blobs)], root), idOf(root), x.want)
		}
	}
}

// dice throws numbers: the same ones for each seed.
type dice struct{ odd string }

func (d *dice) below(n int) int {
	c := int(d.odd[0])
	d.odd = d.odd[1:]
	return c % n
}

// oddNode asks for one of the blobs, not always rightly. The first four blobs
// are pieces.
func oddNode(d *dice, name string, blobs, dirs []api.Blob) api.Node {
	b := blobs[d.below(len(blobs))]
	switch d.below(7) {
	case 0:
		return linkNode(name)
	case 1:
		return fileNode(name, len(b.Bytes)+d.below(100)/95, idOf(b))
	case 2:
		return dirNode(name, idOf(b))
	case 3, 4:
		b = blobs[d.below(4)]
		return fileNode(name, 100+len(b.Bytes), idOf(blobs[2]), idOf(b))
	}
	return dirNode(name, idOf(dirs[d.below(len(dirs))]))
}

// oddHeap are blobs of all kinds that ask for each other; the last one is a
// directory.
func oddHeap(t testing.TB, seed int) []api.Blob {
	d := &dice{odd(seed, 2000)}
	l := []api.Blob{data(""), data("a"), data(odd(seed, 100)), data("b"), treeOf(t)}
	if d.below(4) == 0 {
		l = append(l, snap("a"), api.Blob{Kind: api.KTree, Bytes: "\x01"})
	}
	dirs := []api.Blob{treeOf(t)}
	deep := d.below(4) == 0
	for range 3 + d.below(20) {
		var nodes []api.Node
		for i := range d.below(5) {
			n := oddNode(d, oddName(i, ""), l, dirs)
			if deep && i < 2 {
				n = dirNode(n.Name, idOf(dirs[len(dirs)-1]))
			}
			n.Time, n.Mode = d.below(9)-4, d.below(3)
			nodes = append(nodes, n)
		}
		b := treeOf(t, nodes...)
		l, dirs = append(l, b), append(dirs[max(0, len(dirs)-3):], b)
	}
	if at := d.below(5 * (len(l) - 1)); at < len(l)-1 {
		l = slices.Concat(l[:at], l[at+1:])
	}
	return l
}

func TestReapWordByWord(t *testing.T) {
	seen := map[api.Errno]int{}
	for seed := range 4000 {
		l := oddHeap(t, seed)
		root := idOf(l[len(l)-1])
		checkReap(t, l, root)
		slices.Reverse(l)
		checkReap(t, l, root)
		w, err := walk.Reap(l, root)
		seen[err]++
		if err != api.OK {
			continue
		}
		// What was reaped may be planted, and is the same world again.
		again, root := planted(t, api.Way{Fixed: 64}, w)
		checkReaped(t, again, root, w)
	}
	for _, err := range []api.Errno{api.OK, api.ErrNone, api.ErrKind, api.ErrForm, api.ErrDeep, api.ErrLarge} {
		if seen[err] < 10 {
			t.Errorf("only %d heaps with %v", seen[err], err)
		}
	}
}
