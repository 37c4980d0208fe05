package tree_test

import (
	"math"
	"slices"
	"strings"
	"testing"
	"unsafe"

	"lumberroom/api"
	"lumberroom/tree"
)

// deep is a list with its spare memory and that of its Parts, all of it new.
func deep(l []api.Node) []api.Node {
	all := slices.Clone(l[:cap(l)])
	for i, n := range all {
		all[i].Parts = slices.Clone(n.Parts[:cap(n.Parts)])
	}
	return all
}

// checkAll: whatever comes, the calls answer what they should, the same each
// time, and leave the list and its spare memory as they were.
func checkAll(t *testing.T, l []api.Node, name string) {
	t.Helper()
	before := deep(l)
	for range 2 {
		checkCheck(t, l)
		checkFind(t, l, name)
		for _, n := range l[:min(3, len(l))] {
			checkFind(t, l, n.Name)
		}
		checkWrite(t, l)
	}
	if !same(deep(l), before) {
		t.Fatalf("a list of %d nodes was changed", len(l))
	}
}

func TestCallsAnswerAnything(t *testing.T) {
	wild := []int{math.MinInt, -1 << 32, -1, 0, 1, 2, 3, 4, 257, 511, 512, 4096, 4097, 1<<32 + 1, math.MaxInt}
	for _, kind := range wild {
		for _, n := range wild {
			for _, m := range wild {
				l := []api.Node{
					{Name: "a", Kind: kind, Mode: n, Time: m},
					{Name: "b", Kind: 1, Mode: m, Size: n, Parts: oddIDs(n, 2), Link: odd(m, max(0, m%3))},
					{Name: "c", Kind: kind, Size: m, Time: n, Parts: oddIDs(m, max(0, n%3)), Link: "l"},
				}
				checkAll(t, l, "b")
				checkAll(t, l[1:], "c")
				checkAll(t, l[:1], "\xff")
				checkAll(t, l[2:], "")
			}
		}
	}
	for _, count := range []int{0, 1, 63, 64, 65, 1 << 17} {
		checkAll(t, make([]api.Node, count), "")
		checkAll(t, slices.Repeat([]api.Node{file("a")}, count), "a")
	}
	huge := strings.Repeat("h", 1<<20)
	checkAll(t, []api.Node{file(huge)}, huge)
	checkAll(t, []api.Node{link("a", huge)}, huge)
	checkAll(t, []api.Node{{Name: "a", Kind: 1, Parts: make([]api.ID, 1<<20)}}, "a")
	checkAll(t, oddNodes(1, 64), huge)
	for seed := range 3000 {
		checkRead(t, odd(seed, seed%300))
		checkRead(t, counted(uint64(seed%70), odd(seed, seed%300)))
		checkRead(t, counted(uint64(seed%70), many(seed%66)...)+odd(seed, seed%3))
	}
	for _, s := range []string{"\x00", "\x01", "\x02", "\x40", "\x80", "a", "\xff"} {
		for _, size := range []int{4095, 4096, 4097, 1 << 20} {
			checkRead(t, strings.Repeat(s, size))
			checkRead(t, "\x01\x40"+strings.Repeat(s, size-2))
		}
	}
}

func TestCallsKeepNothing(t *testing.T) {
	l := oddNodes(3, 64)
	s, _ := tree.Write(l)
	read, _ := tree.Read(s)
	keptText, kept := strings.Clone(s), deep(read)
	for _, other := range someLists() {
		tree.Check(other)
		tree.Find(other, "a")
		text, _ := tree.Write(other)
		tree.Read(text)
	}
	for _, c := range nodeFaults {
		tree.Read(counted(2, line(file(" ")), c.s))
	}
	if s != keptText || !same(deep(read), kept) {
		t.Error("an answer was changed by what was asked behind it")
	}
	textAgain, _ := tree.Write(l)
	readAgain, _ := tree.Read(s)
	if textAgain != keptText || !same(readAgain, l) {
		t.Error("what was asked in between is to be seen in the answer")
	}
}

// inMemory is s in memory that can be written to.
func inMemory(s string) (string, []byte) {
	memory := []byte(s + "behind")
	return unsafe.String(unsafe.SliceData(memory), len(s)), memory
}

// The memory of a text is not changed, and what is read from it is another.
func TestTextsAreNotChangedAndNotKept(t *testing.T) {
	for _, l := range someLists() {
		s := written(l)
		text, memory := inMemory(s)
		read, err := tree.Read(text)
		if string(memory) != s+"behind" {
			t.Fatalf("the text of %d nodes was changed", len(l))
		}
		clear(memory)
		if !same(read, l) || err != api.OK {
			t.Errorf("%d nodes change with the text they were read from", len(l))
		}
		first, _ := tree.Write(l)
		second, _ := tree.Write(l)
		// Texts of one byte may all be the same constant ones.
		if len(s) > 1 && unsafe.StringData(first) == unsafe.StringData(second) {
			t.Errorf("two texts of %d nodes share memory", len(l))
		}
	}
}

// withSpare is l with more behind it, and behind its Parts, and with its texts
// in memory that can be written to.
func withSpare(l []api.Node) ([]api.Node, [][]byte) {
	var memories [][]byte
	spared := make([]api.Node, len(l)+5)
	for i, n := range l {
		name, ofName := inMemory(n.Name)
		to, ofLink := inMemory(n.Link)
		memories = append(memories, ofName, ofLink)
		parts := append(slices.Clone(n.Parts), api.ID{77}, api.ID{78})
		n.Name, n.Link, n.Parts = name, to, parts[:len(n.Parts)]
		spared[i] = n
	}
	for i := range 5 {
		spared[len(l)+i] = file("spare")
	}
	return spared[:len(l)], memories
}

func TestListsAreNotChangedAndNotKept(t *testing.T) {
	for _, right := range someLists() {
		l, memories := withSpare(right)
		before := deep(l)
		s, err := tree.Write(l)
		tree.Check(l)
		tree.Find(l, "a")
		if !same(deep(l), before) {
			t.Fatalf("a list of %d nodes was changed", len(l))
		}
		for _, n := range l {
			clear(n.Parts[:cap(n.Parts)])
		}
		for _, memory := range memories {
			clear(memory)
		}
		clear(l[:cap(l)])
		if s != written(right) || err != api.OK {
			t.Errorf("what was written of %d nodes changes with them", len(right))
		}
	}
}

// overwrite changes a list, its Parts and all spare memory.
func overwrite(l []api.Node) {
	for _, n := range l {
		parts := n.Parts[:cap(n.Parts)]
		for i := range parts {
			parts[i] = api.ID{99}
		}
	}
	for i := range l[:cap(l)] {
		l[:cap(l)][i] = file("other")
	}
}

// Not even the spare memory of a list is another one's.
func TestListsAreMemoryOfTheirOwn(t *testing.T) {
	for _, l := range someLists() {
		s := written(l)
		first, _ := tree.Read(s)
		second, _ := tree.Read(s)
		overwrite(second)
		third, _ := tree.Read(s)
		if !same(first, l) || !same(third, l) {
			t.Errorf("two answers of %d nodes share memory", len(l))
		}
		// Nor are the Parts of one node those of another.
		for i := range first {
			whole := first[i].Parts[:cap(first[i].Parts)]
			for k := range whole {
				whole[k] = api.ID{99}
			}
			if !same(first[i+1:], l[i+1:]) || !same(first[:i], third[:i]) {
				t.Fatalf("the Parts of node %d of %d are another's too", i, len(l))
			}
			first[i].Parts = slices.Clone(third[i].Parts)
		}
	}
}

// A list that was changed is read anew.
func TestListsAreNotRemembered(t *testing.T) {
	l := oddNodes(4, 30)
	for i := range l {
		checkAll(t, l, l[i].Name)
		l[i].Time++
		l[i].Mode = (l[i].Mode + 1) % 513
		for k := range l[i].Parts {
			l[i].Parts[k][0]++
		}
		checkAll(t, l, l[i].Name)
		l[i].Mode %= 512
		l[i].Name += "x"
		checkAll(t, l, l[i].Name)
	}
}

// cutUp are nodes of 8 bytes each, most of them nearly right.
func cutUp(s string) []api.Node {
	var l []api.Node
	for ; len(s) >= 8; s = s[8:] {
		n := api.Node{Name: strings.TrimSpace(s[:2]), Kind: int(s[2]) % 5, Mode: int(s[3])*3 - 1, Time: int(int8(s[4])), Size: int(s[5])*17 - 1}
		n.Parts = oddIDs(int(s[6]), int(s[6])%3)
		n.Link = strings.Repeat(s[7:8], int(s[7])*5)
		l = append(l, n)
	}
	return l
}

// made are nodes that are right, and rise: what cutUp makes seldom is.
func made(l []api.Node) []api.Node {
	var right []api.Node
	for i, n := range l[:min(64, len(l))] {
		n.Name, n.Kind, n.Mode = oddName(i, n.Name), 1+n.Kind%3, (n.Mode+1)%512
		switch n.Kind {
		case api.NFile:
			n.Size, n.Link = (n.Size+1)%4097, ""
		case api.NDir:
			n.Size, n.Link, n.Parts = 0, "", oddIDs(i, 1)
		case api.NLink:
			n.Size, n.Parts, n.Link = 0, nil, n.Link[:min(1023, len(n.Link))]+"l"
		}
		right = append(right, n)
	}
	return right
}

func FuzzNodes(f *testing.F) {
	f.Add("some bytes of which nodes are made, some of them right", "so")
	f.Add("", "a")
	f.Add(odd(1, 200), "")
	f.Fuzz(func(t *testing.T, s, name string) {
		l := cutUp(s)
		checkAll(t, l, name)
		right := made(l)
		checkAll(t, right, name)
		checkRead(t, written(right))
		checkRead(t, written(right)+name)
	})
}

func FuzzRead(f *testing.F) {
	for _, c := range known {
		f.Add(byHex(f, c.form))
	}
	for _, c := range countFaults {
		f.Add(c.s[:min(60, len(c.s))])
	}
	for _, c := range nodeFaults {
		f.Add(counted(1, c.s[:min(60, len(c.s))]))
	}
	f.Fuzz(func(t *testing.T, s string) { checkRead(t, s) })
}
