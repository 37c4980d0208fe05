package tree_test

import (
	"math"
	"slices"
	"strings"
	"testing"

	"lumberroom/api"
	"lumberroom/tree"
)

// odd makes n bytes that look like no text: the same ones for each seed.
func odd(seed, n int) string {
	b := make([]byte, n)
	for i := range b {
		seed = (seed*1103515245 + 12345) % (1 << 31)
		b[i] = byte(seed >> 16)
	}
	return string(b)
}

func oddID(seed int) api.ID { return api.ID([]byte(odd(seed, 8))) }

func oddIDs(seed, count int) []api.ID {
	var l []api.ID
	for i := range count {
		l = append(l, oddID(seed+i))
	}
	return l
}

func oddName(i int, o string) string {
	chars := []string{"a", "Z", " ", "~", "\u00f6", "\ufffd", "\U0001f600", "."}
	name := string([]byte{'0' + byte(i/10), '0' + byte(i%10)})
	for _, c := range []byte(o) {
		name += chars[c%8]
	}
	return name
}

// oddNodes is a directory of so many nodes of all kinds.
func oddNodes(seed, count int) []api.Node {
	var l []api.Node
	for i := range count {
		o := odd(seed+i, 30)
		n := api.Node{Name: oddName(i, o[:o[0]%6]), Kind: 1 + int(o[6])%3, Mode: (int(o[7])<<8 | int(o[8])) % 512}
		for _, c := range []byte(o[9:17]) {
			n.Time = n.Time<<8 | int(c)
		}
		n.Time >>= o[17] % 64
		switch n.Kind {
		case api.NFile:
			n.Size = (int(o[18])<<8 | int(o[19])) % 4097
			n.Parts = oddIDs(seed+i, int(o[20])%4)
		case api.NDir:
			n.Parts = oddIDs(seed+i, 1)
		case api.NLink:
			n.Link = odd(seed+i+9, 1+int(o[21])%20) + "\x00"
		}
		l = append(l, n)
	}
	return l
}

func file(name string) api.Node { return api.Node{Name: name, Kind: api.NFile} }

func dir(name string) api.Node {
	return api.Node{Name: name, Kind: api.NDir, Parts: []api.ID{{1}}}
}

func link(name, to string) api.Node { return api.Node{Name: name, Kind: api.NLink, Link: to} }

// with is n changed.
func with(n api.Node, change func(*api.Node)) api.Node {
	n.Parts = slices.Clone(n.Parts)
	change(&n)
	return n
}

// risingNames: each is above those ahead byte by byte, though not by letters,
// by characters of two bytes, or by how long they are.
var risingNames = []string{
	" ", "!", "-", "...", "..a", ".a", "0", "10", "9", "A", "Z", "Zz", "_", "a", "a ", "a.", "aZ", "aa", "aaaaaaaaaaaaaaaaaaaaaaaa", "ab", "a\u00f6", "b", "ba", "o", "z", "zz", "~",
	"\u0080", "\u00d6", "\u00f6", "\u00ff", "\u0100", "\u07ff", "\u0800", "\ud7ff", "\ue000", "\ufffd", "\uffff", "\U00010000", "\U0010ffff",
}

// someLists may all be checked, found in and written.
func someLists() [][]api.Node {
	long := strings.Repeat("l", 1024)
	all := [][]api.Node{
		nil,
		{},
		{file("a")},
		{dir("a")},
		{link("a", "b")},
		{link("a", "\x00")},
		{link("a", "a")},
		{link("a", long)},
		{link("a", strings.Repeat("\x00", 1024))},
		{link("a", "/../.\xff\n"), link("b", long), link("c", long)},
		{file(strings.Repeat("\U0001f600", 24))},
		{with(file("a"), func(n *api.Node) { n.Size = 4096 })},
		{with(file("a"), func(n *api.Node) { n.Parts = oddIDs(1, 300) })},
		{with(file("a"), func(n *api.Node) { n.Size, n.Parts = 4096, make([]api.ID, 300) })},
		{with(file("a"), func(n *api.Node) { n.Parts = []api.ID{} })},
		{with(link("a", "b"), func(n *api.Node) { n.Parts = []api.ID{} })},
	}
	for _, right := range []api.Node{file("a"), dir("a"), link("a", "b")} {
		for _, mode := range []int{0, 1, 255, 256, 420, 510, 511} {
			all = append(all, []api.Node{with(right, func(n *api.Node) { n.Mode = mode })})
		}
		for _, time := range []int{math.MinInt, math.MinInt + 1, -1 << 32, -257, -256, -1, 0, 1, 255, 256, 4223371679, 4223371680, 1 << 62, math.MaxInt} {
			all = append(all, []api.Node{with(right, func(n *api.Node) { n.Time = time })})
		}
	}
	for _, size := range []int{1, 255, 256, 4095} {
		all = append(all, []api.Node{with(file("a"), func(n *api.Node) { n.Size = size })})
	}
	for _, count := range []int{1, 2, 255, 256, 299} {
		all = append(all, []api.Node{with(file("a"), func(n *api.Node) { n.Parts = oddIDs(7, count) })})
	}
	var rising []api.Node
	for i, name := range risingNames {
		rising = append(rising, []api.Node{file(name), dir(name), link(name, "z")}[i%3])
	}
	all = append(all, rising)
	for _, count := range []int{1, 2, 3, 20, 40, 63, 64} {
		all = append(all, oddNodes(count, count))
	}
	return all
}

func TestCheck(t *testing.T) {
	for _, l := range someLists() {
		if err := tree.Check(l); err != api.OK {
			t.Errorf("Check of %d nodes, %.300v..: %v", len(l), few(l), err)
		}
	}
}

// checkRefused: what Check tells is told by Find and Write too.
func checkRefused(t *testing.T, l []api.Node, want api.Errno) {
	t.Helper()
	if err := tree.Check(l); err != want {
		t.Fatalf("Check of %d nodes, %.300v..: %v, want %v", len(l), few(l), err, want)
	}
	for _, name := range []string{"", "nowhere", l[0].Name, l[len(l)-1].Name} {
		if at, err := tree.Find(l, name); at != 0 || err != want {
			t.Fatalf("Find of %.60q in %d nodes, %.300v..: %d, %v, want %v alone", name, len(l), few(l), at, err, want)
		}
	}
	if s, err := tree.Write(l); s != "" || err != want {
		t.Fatalf("Write of %d nodes, %.300v..: %d bytes, %v, want %v alone", len(l), few(l), len(s), err, want)
	}
}

func TestCheckRefusesTooManyNodes(t *testing.T) {
	for _, count := range []int{65, 66, 80, 99, 100} {
		checkRefused(t, oddNodes(0, count), api.ErrLarge)
	}
	for _, count := range []int{65, 66, 128, 256, 256 + 64, 1 << 16} {
		checkRefused(t, make([]api.Node, count), api.ErrLarge)
		checkRefused(t, slices.Repeat([]api.Node{file("a")}, count), api.ErrLarge)
	}
}

// fault is what may be wrong with a node, and the error that tells it.
type fault struct {
	of     string
	want   api.Errno
	change func(*api.Node)
}

// step are faults that Check tells in the same breath.
type step []fault

func nameSteps() step {
	var l step
	for _, c := range []struct {
		name string
		want api.Errno
	}{
		{"", api.ErrName}, {".", api.ErrName}, {"..", api.ErrName}, {"/", api.ErrName}, {"a/b", api.ErrName}, {"\x00", api.ErrName}, {"a\n", api.ErrName}, {"\x1f", api.ErrName}, {"\x7f", api.ErrName}, {"\xff", api.ErrName}, {"a\xc3", api.ErrName}, {"\xed\xa0\x80", api.ErrName}, {"\xc0\xaf", api.ErrName}, {strings.Repeat("a", 24) + "/", api.ErrName},
		{strings.Repeat("a", 25), api.ErrLarge}, {strings.Repeat("\u00f6", 25), api.ErrLarge}, {strings.Repeat("z", 2000), api.ErrLarge},
	} {
		l = append(l, fault{"name", c.want, func(n *api.Node) { n.Name = c.name }})
	}
	return l
}

func argSteps() step {
	var l step
	for _, mode := range []int{math.MinInt, -1 << 32, -511, -1, 512, 513, 1023, 1 << 32, math.MaxInt} {
		l = append(l, fault{"mode", api.ErrArg, func(n *api.Node) { n.Mode = mode }})
	}
	for _, size := range []int{math.MinInt, -1 << 32, -4096, -1, 4097, 4098, 1 << 16, 1 << 32, math.MaxInt} {
		l = append(l, fault{"size", api.ErrArg, func(n *api.Node) { n.Size = size }})
	}
	for _, count := range []int{301, 302, 556, 1000} {
		l = append(l, fault{"parts", api.ErrArg, func(n *api.Node) { n.Parts = make([]api.ID, count) }})
	}
	return l
}

func kindSteps() step {
	var l step
	for _, kind := range []int{math.MinInt, -1 << 32, -256, -255, -1, 0, 4, 5, 128, 255, 256, 257, 258, 259, 1<<32 + 1, math.MaxInt} {
		l = append(l, fault{"kind", api.ErrKind, func(n *api.Node) { n.Kind = kind }})
	}
	return l
}

func formSteps() step {
	var l step
	for _, to := range []string{"x", "\x00", strings.Repeat("x", 1024), strings.Repeat("x", 1025)} {
		l = append(l,
			fault{"file with a link", api.ErrForm, func(n *api.Node) { n.Kind, n.Size, n.Parts, n.Link = api.NFile, 0, nil, to }},
			fault{"file with a link", api.ErrForm, func(n *api.Node) { n.Kind, n.Size, n.Parts, n.Link = api.NFile, 9, oddIDs(1, 2), to }},
			fault{"dir with a link", api.ErrForm, func(n *api.Node) { n.Kind, n.Size, n.Parts, n.Link = api.NDir, 0, oddIDs(1, 1), to }},
		)
	}
	for _, size := range []int{1, 255, 4096} {
		l = append(l,
			fault{"dir with a size", api.ErrForm, func(n *api.Node) { n.Kind, n.Size, n.Parts, n.Link = api.NDir, size, oddIDs(1, 1), "" }},
			fault{"link with a size", api.ErrForm, func(n *api.Node) { n.Kind, n.Size, n.Parts, n.Link = api.NLink, size, nil, "x" }},
		)
	}
	for _, count := range []int{0, 2, 3, 257, 300} {
		l = append(l, fault{"dir with other parts", api.ErrForm, func(n *api.Node) { n.Kind, n.Size, n.Parts, n.Link = api.NDir, 0, make([]api.ID, count), "" }})
	}
	for _, count := range []int{1, 2, 256, 300} {
		l = append(l, fault{"link with parts", api.ErrForm, func(n *api.Node) { n.Kind, n.Size, n.Parts, n.Link = api.NLink, 0, make([]api.ID, count), "x" }})
	}
	return append(l,
		fault{"link without a link", api.ErrForm, func(n *api.Node) { n.Kind, n.Size, n.Parts, n.Link = api.NLink, 0, nil, "" }},
		fault{"file as a dir", api.ErrForm, func(n *api.Node) { n.Kind, n.Size, n.Parts, n.Link = api.NDir, 5, oddIDs(1, 1), "" }},
		fault{"link as a file", api.ErrForm, func(n *api.Node) { n.Kind, n.Size, n.Parts, n.Link = api.NFile, 0, nil, "to" }},
		fault{"dir as a link", api.ErrForm, func(n *api.Node) { n.Kind, n.Size, n.Parts, n.Link = api.NLink, 0, oddIDs(1, 1), "" }},
	)
}

func linkSteps() step {
	var l step
	for _, size := range []int{1025, 1026, 1280, 2048, 5000} {
		l = append(l, fault{"long link", api.ErrLarge, func(n *api.Node) {
			n.Kind, n.Size, n.Parts, n.Link = api.NLink, 0, nil, strings.Repeat("x", size)
		}})
	}
	return l
}

func orderSteps() step {
	return step{fault{"order", api.ErrForm, func(n *api.Node) { n.Name = " " }}}
}

// steps are in the order in which Check takes them.
func steps() []step {
	return []step{nameSteps(), argSteps(), kindSteps(), formSteps(), linkSteps(), orderSteps()}
}

func TestCheckRefusesAWrongNode(t *testing.T) {
	for at := range 64 {
		for seed := range 3 {
			l := oddNodes(at+100*seed, 64)
			right := l[at]
			for _, s := range steps() {
				for _, f := range s {
					if f.of == "order" && at == 0 {
						continue
					}
					l[at] = with(right, f.change)
					checkRefused(t, l, f.want)
				}
			}
		}
	}
}

// Of two faults of one node the one of the earlier step is told.
func TestCheckTellsTheFirstErrorOfANode(t *testing.T) {
	all := steps()
	for i, earlier := range all {
		for _, later := range all[i+1:] {
			for _, f := range earlier {
				for _, g := range later {
					if f.of == "name" && g.of == "order" {
						continue // both are the Name
					}
					n := with(file("b"), func(n *api.Node) { g.change(n); f.change(n) })
					checkRefused(t, []api.Node{file("a"), n}, f.want)
				}
			}
		}
	}
}

// Of two nodes the first one's fault is told, be it of a later step.
func TestCheckTellsTheFirstNodesError(t *testing.T) {
	for _, s := range steps() {
		f := s[len(s)-1]
		for _, other := range steps() {
			g := other[0]
			l := []api.Node{file("a"), with(file("b"), f.change), with(file("c"), g.change), file("d")}
			checkRefused(t, l, f.want)
			checkRefused(t, append(l, make([]api.Node, 60)...), f.want)
			checkRefused(t, append(l, make([]api.Node, 61)...), api.ErrLarge)
		}
	}
}

func TestCheckRefusesNamesThatDoNotRise(t *testing.T) {
	for i, name := range risingNames {
		for _, ahead := range risingNames[i:] {
			checkRefused(t, []api.Node{file(ahead), file(name)}, api.ErrForm)
			checkRefused(t, []api.Node{dir(ahead), link(name, "z")}, api.ErrForm)
		}
		for _, ahead := range risingNames[:i] {
			if err := tree.Check([]api.Node{link(ahead, "z"), file(name)}); err != api.OK {
				t.Errorf("%q behind %q: %v", name, ahead, err)
			}
		}
	}
	// Each is held against the one just ahead, not against the first one.
	checkRefused(t, []api.Node{file("a"), file("c"), file("b")}, api.ErrForm)
	checkRefused(t, []api.Node{file("a"), file("b"), file("b")}, api.ErrForm)
}

func TestFind(t *testing.T) {
	for _, l := range someLists() {
		for i, n := range l {
			if at, err := tree.Find(l, n.Name); at != i || err != api.OK {
				t.Errorf("Find of %q in %d nodes: %d, %v, want %d", n.Name, len(l), at, err, i)
			}
			for _, name := range []string{n.Name + " ", n.Name + "\x00", n.Name[1:], n.Name[:len(n.Name)-1], strings.ToUpper(n.Name), "/" + n.Name, n.Link} {
				checkFind(t, l, name)
			}
		}
	}
}

// A name that no node may have is just not there.
func TestFindTellsThatThereIsNone(t *testing.T) {
	l := []api.Node{file("b"), dir("d"), link("f", "g")}
	for _, name := range []string{"", ".", "..", "/", "a", "B", "b\x00", "bb", "b/", "/b", "c", "da", "e", "g", "\xff", strings.Repeat("b", 5000)} {
		for n := range 4 {
			if at, err := tree.Find(l[:n], name); at != 0 || err != api.ErrNone {
				t.Errorf("Find of %.60q in %d nodes: %d, %v, want ErrNone alone", name, n, at, err)
			}
		}
	}
}
