package tree_test

import (
	"encoding/hex"
	"hash/crc32"
	"math"
	"strings"
	"testing"

	"lumberroom/api"
	"lumberroom/tree"
)

// byHex is the text whose bytes are told by base 16, with blanks in between.
func byHex(t testing.TB, s string) string {
	t.Helper()
	b, err := hex.DecodeString(strings.ReplaceAll(s, " ", ""))
	if err != nil {
		t.Fatal(err)
	}
	return string(b)
}

// known were worked out by another program.
var known = []struct {
	l    []api.Node
	form string
}{
	{nil, "00"},
	{[]api.Node{{Name: "a", Kind: 1}}, "0101 610000 01 00 80 00 00 0000"},
	{
		[]api.Node{
			{Name: "a", Kind: 1, Mode: 420, Time: -3, Size: 2, Parts: []api.ID{{1}}},
			{Name: "b", Kind: 2, Parts: []api.ID{{2}}},
			{Name: "c", Kind: 3, Link: "a"},
		},
		"0103 610000 01 0201a4 7efd 0102 0101 0100000000000000 0000" +
			"620000 02 00 80 00 0101 0200000000000000 0000" +
			"630000 03 00 80 00 00 610000",
	},
	{[]api.Node{{Name: "\u00f6", Kind: 3, Mode: 511, Time: math.MaxInt, Link: "\x00\xff\x00"}}, "0101 c3b60000 03 0201ff 887fffffffffffffff 00 00 00ffff00ff0000"},
	{[]api.Node{{Name: "..a", Kind: 2, Mode: 256, Time: math.MinInt, Parts: []api.ID{{255, 255, 255, 255, 255, 255, 255, 255}}}}, "0101 2e2e610000 02 020100 778000000000000000 00 0101 ffffffffffffffff 0000"},
	{
		[]api.Node{
			{Name: "x y", Kind: 1, Mode: 255, Time: -1, Size: 4096, Parts: []api.ID{api.ID([]byte("12345678")), api.ID([]byte("12345678")), {}}},
			{Name: "x!", Kind: 1, Mode: 1, Time: 255, Size: 255},
		},
		"0102 7820790000 01 01ff 7f 021000 0103 3132333435363738 3132333435363738 0000000000000000 0000" +
			"78210000 01 0101 81ff 01ff 00 0000",
	},
}

func TestWriteAndRead(t *testing.T) {
	for i, c := range known {
		form := byHex(t, c.form)
		if s, err := tree.Write(c.l); s != form || err != api.OK {
			t.Errorf("case %d: Write(%v) = %x, %v, want %s", i, c.l, s, err, c.form)
		}
		if l, err := tree.Read(form); !same(l, c.l) || err != api.OK {
			t.Errorf("case %d: Read(%s) = %v, %v, want %v", i, c.form, l, err, c.l)
		}
	}
}

// These were worked out by another program.
func TestWriteOfManyNodes(t *testing.T) {
	big := api.Node{Name: "big", Kind: 1, Mode: 493, Time: 1000000, Size: 4096, Parts: oddIDs(0, 300)}
	for _, c := range []struct {
		l        []api.Node
		size     int
		checksum uint32
	}{
		{oddNodes(0, 64), 2090, 0xce33cf2c},
		{oddNodes(1, 63), 2058, 0x309fe7dd},
		{oddNodes(2, 40), 1312, 0xf9b9310a},
		{oddNodes(7, 1), 27, 0x3cd01221},
		{oddNodes(300, 64), 2066, 0x0dae96fe},
		{[]api.Node{big}, 2423, 0x063e757f},
	} {
		s, err := tree.Write(c.l)
		if sum := crc32.ChecksumIEEE([]byte(s)); len(s) != c.size || sum != c.checksum || err != api.OK {
			t.Errorf("Write of %d nodes: %d bytes, checksum %x, %v, want %d, %x", len(c.l), len(s), sum, err, c.size, c.checksum)
		}
	}
}

func TestWriteWordByWord(t *testing.T) {
	for _, l := range someLists() {
		checkWrite(t, l)
	}
}

// checkEdge: l is written in just 4096 bytes, and what has one more of anything
// is too large.
func checkEdge(t *testing.T, l []api.Node, more ...func([]api.Node) []api.Node) {
	t.Helper()
	s, err := tree.Write(l)
	if len(s) != 4096 || s != written(l) || err != api.OK {
		t.Fatalf("Write of %d nodes: %d bytes, %v, want 4096", len(l), len(s), err)
	}
	if got, err := tree.Read(s); !same(got, l) || err != api.OK {
		t.Fatalf("Read of 4096 bytes: %d nodes, %v", len(got), err)
	}
	for i, add := range more {
		larger := add(append([]api.Node(nil), l...))
		if err := tree.Check(larger); err != api.OK {
			t.Fatalf("more %d: Check: %v", i, err)
		}
		if s, err := tree.Write(larger); s != "" || err != api.ErrLarge {
			t.Errorf("more %d: Write of %d bytes: %d, %v, want ErrLarge alone", i, len(written(larger)), len(s), err)
		}
	}
}

func TestWriteTellsThatItIsTooLarge(t *testing.T) {
	longer := func(l []api.Node) []api.Node { l[0].Link += "x"; return l }
	named := func(l []api.Node) []api.Node { l[0].Name += "x"; return l }
	later := func(l []api.Node) []api.Node { l[1].Time = 1; return l }
	mode := func(l []api.Node) []api.Node { l[1].Mode = 1; return l }
	another := func(l []api.Node) []api.Node { return append(l, file("z")) }
	var links []api.Node
	for _, name := range []string{"a", "b", "c", "d"} {
		links = append(links, link(name, strings.Repeat("l", 1015)))
	}
	links[3].Link = links[3].Link[:4096-len(written(links))+len(links[3].Link)]
	checkEdge(t, links, longer, named, later, mode, another)

	// Noughts take two bytes each.
	noughts := []api.Node{link("a", strings.Repeat("\x00", 1020)), link("b", strings.Repeat("\x00", 1000)), link("c", "l")}
	noughts[2].Link = strings.Repeat("l", 1+4096-len(written(noughts)))
	checkEdge(t, noughts, longer, named, later, mode, another)

	pieces := []api.Node{file("a"), file("b"), link("c", "l")}
	pieces[0].Parts, pieces[1].Parts = oddIDs(1, 299), oddIDs(2, 200)
	pieces[2].Link = strings.Repeat("l", 1+4096-len(written(pieces)))
	part := func(l []api.Node) []api.Node { l[0].Parts = oddIDs(1, 300); return l }
	size := func(l []api.Node) []api.Node { l[0].Size = 1; return l }
	checkEdge(t, pieces, named, later, mode, another, part, size)

	full := []api.Node{file("a"), file("b"), file("c")}
	for i := range full {
		full[i].Parts = oddIDs(i, 300)
	}
	if s, err := tree.Write(full); s != "" || err != api.ErrLarge {
		t.Errorf("Write of three files of 300 parts: %d bytes, %v, want ErrLarge alone", len(s), err)
	}
}

// Check's error is told ahead of how much it all would be.
func TestWriteChecksFirst(t *testing.T) {
	var full []api.Node
	for i := range 63 {
		full = append(full, api.Node{Name: oddName(i, ""), Kind: 1, Parts: oddIDs(i, 300)})
	}
	if s, err := tree.Write(full); s != "" || err != api.ErrLarge {
		t.Errorf("Write of 63 files of 300 parts: %d bytes, %v, want ErrLarge alone", len(s), err)
	}
	for _, s := range steps() {
		for _, f := range s {
			checkRefused(t, append(full[:63:63], with(file("z"), f.change)), f.want)
		}
	}
}
