package walk_test

import (
	"slices"
	"testing"

	"lumberroom/api"
	"lumberroom/walk"
)

func checkNeedsOf(t *testing.T, b api.Blob, want ...api.ID) {
	t.Helper()
	if l, err := walk.Needs(b); !slices.Equal(l, want) || err != api.OK {
		t.Errorf("Needs of kind %d, %.60q: %x, %v, want %x", b.Kind, b.Bytes, l, err, want)
	}
}

func TestNeeds(t *testing.T) {
	a, b, c, zero := api.ID{1}, api.ID{2}, api.ID{0, 0, 0, 0, 0, 0, 0, 1}, api.ID{}
	checkNeedsOf(t, treeOf(t))
	checkNeedsOf(t, treeOf(t, linkNode("a"), fileNode("b", 0)))
	checkNeedsOf(t, treeOf(t, dirNode("a", a)), a)
	checkNeedsOf(t, treeOf(t, dirNode("a", zero)), zero)
	checkNeedsOf(t, treeOf(t, fileNode("a", 0, b, a, c)), b, a, c)
	checkNeedsOf(t, treeOf(t, fileNode("a", 0, b, b, a, b, a)), b, a)
	checkNeedsOf(t, treeOf(t, fileNode("a", 0, c, b), linkNode("b"), dirNode("c", a), fileNode("d", 0, zero)), c, b, a, zero)
	checkNeedsOf(t, treeOf(t, dirNode("a", b), dirNode("b", a), dirNode("c", b), fileNode("d", 0, a, c, b)), b, a, c)
	for i, x := range known {
		l, _, _ := walk.Plant(x.way, x.w)
		for _, b := range l {
			checkNeeds(t, b)
		}
		if needs, err := walk.Needs(l[len(l)-1]); len(needs) > len(l) || err != api.OK {
			t.Errorf("case %d: %x, %v", i, needs, err)
		}
	}
	checkNeedsOf(t, api.Blob{Kind: api.KTree, Bytes: byHex(t, known[1].blobs[2])[1:]}, idByHex(t, "e59eea0389ca9016"), idByHex(t, "ac96716656babb2c"))
}

func TestNeedsOfManyParts(t *testing.T) {
	var ids []api.ID
	for i := range 500 {
		ids = append(ids, api.ID([]byte(odd(i, 8))))
	}
	checkNeedsOf(t, treeOf(t, fileNode("a", 0, ids[:300]...), fileNode("b", 0, ids[300:]...)), ids...)
	checkNeedsOf(t, treeOf(t, fileNode("a", 0, ids[:300]...), fileNode("b", 0, ids[100:300]...)), ids[:300]...)
	backwards := slices.Clone(ids[:300])
	slices.Reverse(backwards)
	checkNeedsOf(t, treeOf(t, fileNode("a", 0, backwards...), fileNode("b", 0, ids[:200]...)), backwards...)
	var nodes []api.Node
	for i := range 64 {
		nodes = append(nodes, dirNode(oddName(i, ""), ids[i%50]))
	}
	checkNeedsOf(t, treeOf(t, nodes...), ids[:50]...)
}

// A blob that is no directory needs nothing, whatever its bytes are.
func TestNeedsOfOtherBlobs(t *testing.T) {
	for _, s := range []string{"", "\x00", "\xff", treeOf(t, dirNode("a", api.ID{1})).Bytes, odd(1, 4096)} {
		checkNeedsOf(t, data(s))
		checkNeedsOf(t, snap(s))
	}
}

func TestNeedsRefuses(t *testing.T) {
	for _, c := range []struct {
		b    api.Blob
		want api.Errno
	}{
		{api.Blob{}, api.ErrKind},
		{api.Blob{Kind: 4, Bytes: "\x00"}, api.ErrKind},
		{api.Blob{Kind: 258, Bytes: "\x00"}, api.ErrKind},
		{api.Blob{Kind: -2, Bytes: "\x00"}, api.ErrKind},
		{api.Blob{Kind: 1<<32 + 2, Bytes: odd(1, 5000)}, api.ErrKind},
		{data(odd(1, 4097)), api.ErrLarge},
		{snap(odd(1, 4097)), api.ErrLarge},
		{api.Blob{Kind: api.KTree, Bytes: "\xff" + odd(1, 4096)}, api.ErrLarge},
		{api.Blob{Kind: api.KTree}, api.ErrShort},
		{api.Blob{Kind: api.KTree, Bytes: "\xff"}, api.ErrForm},
		{api.Blob{Kind: api.KTree, Bytes: "\x00\x00"}, api.ErrForm},
		{api.Blob{Kind: api.KTree, Bytes: "\x01\x41"}, api.ErrLarge},
	} {
		if l, err := walk.Needs(c.b); l != nil || err != c.want {
			t.Errorf("Needs of kind %d, %.60q: %x, %v, want %v alone", c.b.Kind, c.b.Bytes, l, err, c.want)
		}
	}
	for b, want := range wrongDirectories(t) {
		if b.Kind != api.KTree {
			want = api.OK
		}
		if l, err := walk.Needs(b); l != nil || err != want {
			t.Errorf("Needs of kind %d, %.60q: %x, %v, want %v alone", b.Kind, b.Bytes, l, err, want)
		}
	}
}

// What all blobs from the root on need is just what was planted.
func TestNeedsReachAllThatWasPlanted(t *testing.T) {
	for _, w := range someWorlds() {
		for _, way := range someWays[:7] {
			l, root := planted(t, way, w)
			byID := map[api.ID]api.Blob{}
			for _, b := range l {
				checkNeeds(t, b)
				byID[idOf(b)] = b
			}
			reached := map[api.ID]bool{root: true}
			for queue := []api.ID{root}; len(queue) > 0; queue = queue[1:] {
				needs, err := walk.Needs(byID[queue[0]])
				if err != api.OK {
					t.Fatal(err)
				}
				for _, id := range needs {
					if _, there := byID[id]; !there {
						t.Fatalf("%x is needed, but not there", id)
					}
					if !reached[id] {
						reached[id] = true
						queue = append(queue, id)
					}
				}
			}
			if len(reached) != len(l) {
				t.Fatalf("of %d blobs %d are needed", len(l), len(reached))
			}
		}
	}
}
