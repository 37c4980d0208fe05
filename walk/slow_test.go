package walk_test

import (
	"fmt"
	"slices"
	"strconv"
	"strings"
	"testing"

	"lumberroom/api"
	"lumberroom/chunk"
	"lumberroom/names"
	"lumberroom/pack"
	"lumberroom/tree"
	"lumberroom/walk"
)

// Each call written anew, word by word, with the limits as numbers.

func slowCheck(w []api.Item) api.Errno {
	if len(w) >= 101 {
		return api.ErrLarge
	}
	for i, x := range w {
		l, err := names.Split(x.Path)
		if err != api.OK {
			return err
		}
		if x.Path == "/" {
			return api.ErrName
		}
		if x.Kind < 1 || x.Kind > 3 {
			return api.ErrKind
		}
		if x.Mode < 0 || x.Mode >= 512 {
			return api.ErrArg
		}
		if n := len(x.Bytes); n >= 4097 || x.Kind == 2 && n >= 1 || x.Kind == 3 && n >= 1025 {
			return api.ErrLarge
		}
		if x.Kind == 3 && x.Bytes == "" {
			return api.ErrForm
		}
		if i > 0 && !slowBehind(l, w[i-1].Path) {
			return api.ErrForm
		}
		there := len(l) == 1
		for _, y := range w[:i] {
			if y.Kind == 2 && y.Path+"/"+l[len(l)-1] == x.Path {
				there = true
			}
		}
		if !there {
			return api.ErrNone
		}
	}
	return api.OK
}

func slowBehind(l []string, path string) bool {
	ahead, _ := names.Split(path)
	return slices.Compare(ahead, l) == -1
}

func slowWayOK(way api.Way) api.Errno {
	if way.Fixed != 0 {
		if way.Fixed <= 15 || way.Fixed >= 1025 {
			return api.ErrArg
		}
		return api.OK
	}
	return chunk.Check(way.Cut)
}

// caught is for calls that throw their first error.
func caught(err *api.Errno) {
	if thrown := recover(); thrown != nil {
		*err = thrown.(api.Errno)
	}
}

func must(err api.Errno) {
	if err != api.OK {
		panic(err)
	}
}

func idOf(b api.Blob) api.ID {
	id, err := pack.ID(b)
	must(err)
	return id
}

// teller keeps what was told, in order.
type teller struct {
	blobs []api.Blob
	ids   []api.ID
}

func (l *teller) tell(b api.Blob) api.ID {
	id := idOf(b)
	if i := slices.Index(l.ids, id); i < 0 {
		l.blobs, l.ids = append(l.blobs, b), append(l.ids, id)
	} else if l.blobs[i] != b {
		panic(api.ErrClash)
	}
	return id
}

func slowCut(way api.Way, s string) []string {
	if way.Fixed == 0 {
		l, err := chunk.Cut(way.Cut, s)
		must(err)
		return l
	}
	var l []string
	for s != "" {
		n := min(way.Fixed, len(s))
		l, s = append(l, s[:n]), s[n:]
	}
	return l
}

// slowBlobs goes through all items for each directory.
func slowBlobs(l *teller, way api.Way, w []api.Item, path string) api.ID {
	var nodes []api.Node
	for _, x := range w {
		name, below := strings.CutPrefix(x.Path, path+"/")
		if !below || strings.Contains(name, "/") {
			continue
		}
		n := api.Node{Name: name, Kind: x.Kind, Mode: x.Mode, Time: x.Time}
		switch x.Kind {
		case 1:
			n.Size = len(x.Bytes)
			for _, piece := range slowCut(way, x.Bytes) {
				n.Parts = append(n.Parts, l.tell(api.Blob{Kind: 1, Bytes: piece}))
			}
		case 2:
			n.Parts = []api.ID{slowBlobs(l, way, w, x.Path)}
		case 3:
			n.Link = x.Bytes
		}
		nodes = append(nodes, n)
	}
	text, err := tree.Write(nodes)
	must(err)
	return l.tell(api.Blob{Kind: 2, Bytes: text})
}

func slowPlant(way api.Way, w []api.Item) (blobs []api.Blob, root api.ID, err api.Errno) {
	defer caught(&err)
	must(slowWayOK(way))
	must(slowCheck(w))
	var l teller
	id := slowBlobs(&l, way, w, "")
	return l.blobs, id, api.OK
}

// slowFind is the blob of that ID and Kind.
func slowFind(l []api.Blob, id api.ID, kind int) api.Blob {
	at := slices.IndexFunc(l, func(b api.Blob) bool { return idOf(b) == id })
	if at < 0 {
		panic(api.ErrNone)
	}
	if l[at].Kind != kind {
		panic(api.ErrKind)
	}
	return l[at]
}

// slowItems tells the items below a directory, behind those that were told.
func slowItems(told []api.Item, l []api.Blob, id api.ID, ahead []string) []api.Item {
	nodes, err := tree.Read(slowFind(l, id, 2).Bytes)
	must(err)
	for _, n := range nodes {
		path := append(slices.Clone(ahead), n.Name)
		if len(path) >= 9 {
			panic(api.ErrDeep)
		}
		if len(told) >= 100 {
			panic(api.ErrLarge)
		}
		x := api.Item{Path: "/" + strings.Join(path, "/"), Kind: n.Kind, Mode: n.Mode, Time: n.Time, Bytes: n.Link}
		if n.Kind == 1 {
			for _, part := range n.Parts {
				x.Bytes += slowFind(l, part, 1).Bytes
				if len(x.Bytes) > n.Size {
					panic(api.ErrForm)
				}
			}
			if len(x.Bytes) < n.Size {
				panic(api.ErrForm)
			}
		}
		told = append(told, x)
		if n.Kind == 2 {
			told = slowItems(told, l, n.Parts[0], path)
		}
	}
	return told
}

func slowReap(l []api.Blob, root api.ID) (w []api.Item, err api.Errno) {
	defer caught(&err)
	if len(l) >= 1001 {
		return nil, api.ErrLarge
	}
	var once teller
	for _, b := range l {
		once.tell(b)
	}
	return slowItems(nil, once.blobs, root, nil), api.OK
}

func slowNeeds(b api.Blob) (needs []api.ID, err api.Errno) {
	defer caught(&err)
	idOf(b)
	if b.Kind != 2 {
		return nil, api.OK
	}
	nodes, err := tree.Read(b.Bytes)
	must(err)
	there := map[api.ID]bool{}
	for _, n := range nodes {
		for _, id := range n.Parts {
			if !there[id] {
				needs = append(needs, id)
			}
			there[id] = true
		}
	}
	return needs, api.OK
}

// few is the beginning of what a list has.
func few[T any](l []T) string {
	s := strconv.QuoteToASCII(fmt.Sprint(l[:min(4, len(l))]))
	return s[:min(300, len(s))] + ".."
}

func checkCheck(t *testing.T, w []api.Item) {
	t.Helper()
	if got, want := walk.Check(w), slowCheck(w); got != want {
		t.Fatalf("Check of %d items, %s: %v, want %v", len(w), few(w), got, want)
	}
}

func checkWayOK(t *testing.T, way api.Way) {
	t.Helper()
	if got, want := walk.WayOK(way), slowWayOK(way); got != want {
		t.Fatalf("WayOK(%v) = %v, want %v", way, got, want)
	}
}

func checkPlant(t *testing.T, way api.Way, w []api.Item) {
	t.Helper()
	want, wantRoot, wrong := slowPlant(way, w)
	got, root, err := walk.Plant(way, w)
	if !slices.Equal(got, want) || root != wantRoot || err != wrong || err != api.OK && got != nil {
		t.Fatalf("Plant by %v of %d items, %s: %d blobs, %x, %v, want %d, %x, %v", way, len(w), few(w), len(got), root, err, len(want), wantRoot, wrong)
	}
}

func checkReap(t *testing.T, l []api.Blob, root api.ID) {
	t.Helper()
	want, wrong := slowReap(l, root)
	got, err := walk.Reap(l, root)
	if !slices.Equal(got, want) || err != wrong || err != api.OK && got != nil {
		t.Fatalf("Reap of %x from %d blobs, %s: %s (%d), %v, want %s (%d), %v", root, len(l), few(l), few(got), len(got), err, few(want), len(want), wrong)
	}
	if err := walk.Check(got); err != api.OK {
		t.Fatalf("what is reaped is no world: %v", err)
	}
}

func checkNeeds(t *testing.T, b api.Blob) {
	t.Helper()
	want, wrong := slowNeeds(b)
	got, err := walk.Needs(b)
	if !slices.Equal(got, want) || err != wrong || err != api.OK && got != nil {
		t.Fatalf("Needs of kind %d, %.60q: %x, %v, want %x, %v", b.Kind, b.Bytes, got, err, want, wrong)
	}
}
