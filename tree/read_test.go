package tree_test

import (
	"strings"
	"testing"

	"lumberroom/api"
	"lumberroom/num"
	"lumberroom/tree"
)

func checkReadRefuses(t *testing.T, s string, want api.Errno) {
	t.Helper()
	if l, err := tree.Read(s); l != nil || err != want {
		t.Fatalf("Read(%.90q): %d nodes, %v, want %v alone", s, len(l), err, want)
	}
}

func TestReadTellsWhatWriteWrote(t *testing.T) {
	for _, l := range someLists() {
		s, err := tree.Write(l)
		if err != api.OK {
			t.Fatalf("Write of %d nodes: %v", len(l), err)
		}
		if got, err := tree.Read(s); !same(got, l) || err != api.OK {
			t.Errorf("%d nodes come back as %d, %v", len(l), len(got), err)
		}
		// No beginning of it, and nothing longer, is a directory.
		for n := range len(s) {
			checkReadRefuses(t, s[:n], api.ErrShort)
		}
		for _, more := range []string{"\x00", "\x01", "\xff", s[:min(40, len(s))]} {
			checkReadRefuses(t, s+more, api.ErrForm)
		}
	}
}

func counted(n uint64, lines ...string) string {
	return num.Put(n) + strings.Join(lines, "")
}

// many are n lines whose names rise, none of them a link.
func many(n int) []string {
	var l []string
	for i := range n {
		l = append(l, line(file(oddName(i, ""))))
	}
	return l
}

// head is a node up to its Kind, be that right or wrong.
func head(name string, kind byte) string {
	return text(name) + string([]byte{kind})
}

const (
	now  = "\x80" // the Time 0
	none = "\x00" // a number 0
	ends = "\x00\x00"
	id   = "12345678"
)

// countFaults are of how many nodes there are.
var countFaults = []wrongText{
	{"", api.ErrShort},
	{"\x01", api.ErrShort},
	{"\x02\x01", api.ErrShort},
	{"\x08\x01\x01\x01\x01\x01\x01\x01", api.ErrShort},
	{"\x09", api.ErrForm},
	{"\xff", api.ErrForm},
	{"\x01\x00", api.ErrForm},
	{"\x02\x00\x01", api.ErrForm},
	{counted(65), api.ErrLarge},
	{counted(65, many(65)...), api.ErrLarge},
	{counted(66, "x"), api.ErrLarge},
	{counted(256), api.ErrLarge},
	{counted(1 << 32), api.ErrLarge},
	{counted(1<<32 + 1), api.ErrLarge},
	{counted(1 << 63), api.ErrLarge},
	{counted(1<<64 - 1), api.ErrLarge},
	{counted(1), api.ErrShort},
	{counted(64, many(63)...), api.ErrShort},
}

type wrongText struct {
	s    string
	want api.Errno
}

// nodeFaults are of what a node is read from, each told ahead of all behind.
var nodeFaults = []wrongText{
	// Its Name.
	{"a", api.ErrShort},
	{"a\x00", api.ErrShort},
	{"a\x00\xff", api.ErrShort},
	{"a\x00\x01", api.ErrForm},
	{"\x00\xfe", api.ErrForm},
	{strings.Repeat("a", 1024), api.ErrShort},
	{strings.Repeat("a", 1024) + "\x00\x01", api.ErrForm},
	{strings.Repeat("a", 1025), api.ErrLarge},
	{strings.Repeat("\x00\xff", 1025), api.ErrLarge},
	// Its Kind.
	{"a\x00\x00", api.ErrShort},
	{"\x00\x00", api.ErrShort},
	// Its Mode.
	{head("a", 1), api.ErrShort},
	{head("a", 9), api.ErrShort},
	{head("a", 1) + "\x02\x01", api.ErrShort},
	{head("a", 1) + "\x09", api.ErrForm},
	{head("a", 1) + "\x01\x00", api.ErrForm},
	{head("a", 1) + num.Put(512), api.ErrLarge},
	{head("a", 1) + num.Put(1<<32), api.ErrLarge},
	{head("a", 1) + num.Put(1<<64-1), api.ErrLarge},
	{head("/", 9) + num.Put(512), api.ErrLarge},
	// Its Time.
	{head("a", 1) + none, api.ErrShort},
	{head("a", 1) + none + "\x81", api.ErrShort},
	{head("a", 1) + none + "\x7e", api.ErrShort},
	{head("a", 1) + none + "\x00", api.ErrForm},
	{head("a", 1) + none + "\x76", api.ErrForm},
	{head("a", 1) + none + "\x89", api.ErrForm},
	{head("a", 1) + none + "\x81\x00", api.ErrForm},
	{head("a", 1) + none + "\x7e\xff", api.ErrForm},
	{head("a", 1) + none + "\x88\x80\x00\x00\x00\x00\x00\x00\x00", api.ErrForm},
	{head("a", 1) + none + "\x77\x7f\xff\xff\xff\xff\xff\xff\xff", api.ErrForm},
	// Its Size.
	{head("a", 1) + none + now, api.ErrShort},
	{head("a", 1) + none + now + "\x01", api.ErrShort},
	{head("a", 1) + none + now + "\x0a", api.ErrForm},
	{head("a", 1) + none + now + "\x02\x00\x01", api.ErrForm},
	{head("a", 1) + none + now + num.Put(4097), api.ErrLarge},
	{head("a", 1) + none + now + num.Put(1<<32), api.ErrLarge},
	{head("a", 2) + none + now + num.Put(1<<63), api.ErrLarge},
	// Its Parts.
	{head("a", 1) + none + now + none, api.ErrShort},
	{head("a", 1) + none + now + none + "\x01", api.ErrShort},
	{head("a", 1) + none + now + none + "\x80", api.ErrForm},
	{head("a", 1) + none + now + none + "\x01\x00", api.ErrForm},
	{head("a", 1) + none + now + none + num.Put(301), api.ErrLarge},
	{head("a", 1) + none + now + none + num.Put(301) + strings.Repeat(id, 301) + ends, api.ErrLarge},
	{head("a", 1) + none + now + none + num.Put(1<<32+1), api.ErrLarge},
	{head("a", 1) + none + now + none + num.Put(1<<64-1), api.ErrLarge},
	{head("a", 1) + none + now + none + num.Put(1), api.ErrShort},
	{head("a", 1) + none + now + none + num.Put(1) + id[:7], api.ErrShort},
	{head("a", 1) + none + now + none + num.Put(2) + id, api.ErrShort},
	{head("a", 1) + none + now + none + num.Put(2) + id + id[:1], api.ErrShort},
	{head("a", 1) + none + now + none + num.Put(300) + strings.Repeat(id, 299), api.ErrShort},
	{head("a", 1) + none + now + none + num.Put(300) + strings.Repeat(id, 299) + id[:7], api.ErrShort},
	// Its Link.
	{head("a", 3) + none + now + none + none, api.ErrShort},
	{head("a", 3) + none + now + none + none + "l", api.ErrShort},
	{head("a", 3) + none + now + none + none + "l\x00", api.ErrShort},
	{head("a", 3) + none + now + none + none + "l\x00\x02", api.ErrForm},
	{head("a", 3) + none + now + none + none + strings.Repeat("l", 1025), api.ErrLarge},
	{head("a", 3) + none + now + none + none + strings.Repeat("l", 1025) + ends, api.ErrLarge},
	{head("a", 1) + none + now + none + num.Put(1) + id + "\x00\x07", api.ErrForm},
}

func TestReadRefusesAWrongCount(t *testing.T) {
	for _, c := range countFaults {
		checkReadRefuses(t, c.s, c.want)
	}
}

func TestReadRefusesAWrongNode(t *testing.T) {
	wrong := line(api.Node{Name: "", Kind: 7, Link: "x"})
	for _, c := range nodeFaults {
		checkReadRefuses(t, counted(1, c.s), c.want)
		checkReadRefuses(t, counted(64, c.s), c.want)
		checkReadRefuses(t, counted(64, many(63)...)+c.s, c.want)
		// What Check would tell of a node ahead waits.
		checkReadRefuses(t, counted(2, wrong, c.s), c.want)
		checkReadRefuses(t, counted(3, wrong, wrong, c.s), c.want)
		if c.want != api.ErrShort {
			checkReadRefuses(t, counted(1, c.s, "\x09\x09 and more"), c.want)
			checkReadRefuses(t, counted(2, c.s, wrong), c.want)
		}
	}
}

// Bytes that are left are told ahead of what Check tells.
func TestReadRefusesBytesThatAreLeft(t *testing.T) {
	wrong := line(api.Node{Name: "", Kind: 7, Link: "x"})
	for _, s := range []string{
		counted(0, "\x00"),
		counted(0, many(1)...),
		counted(1, many(2)...),
		counted(63, many(64)...),
		counted(64, many(65)...),
		counted(1, wrong, "\x00"),
		counted(1, wrong, wrong),
		counted(2, wrong, wrong, "left"),
	} {
		checkReadRefuses(t, s, api.ErrForm)
	}
}

// What can be written, though it may not be, is told by Check.
func TestReadTellsWhatCheckTells(t *testing.T) {
	for _, s := range steps() {
		for _, f := range s {
			n := with(file("b"), f.change)
			if n.Kind != int(byte(n.Kind)) || len(n.Link) > 1024 || len(n.Name) > 1024 || f.want == api.ErrArg {
				continue // this is told as it is read
			}
			checkReadRefuses(t, counted(2, line(file("a")), line(n)), f.want)
			if f.of != "order" {
				checkReadRefuses(t, counted(1, line(n)), f.want)
				checkReadRefuses(t, counted(3, line(n), line(file("a")), line(dir("."))), f.want)
			}
		}
	}
	for _, kind := range []byte{0, 4, 5, 127, 128, 129, 130, 131, 255} {
		checkReadRefuses(t, counted(1, head("a", kind)+none+now+none+none+ends), api.ErrKind)
	}
	checkReadRefuses(t, counted(1, line(file("a/b"))), api.ErrName)
	checkReadRefuses(t, counted(1, line(file("\x00"))), api.ErrName)
	checkReadRefuses(t, counted(1, line(file(strings.Repeat("a", 1024)))), api.ErrLarge)
	checkReadRefuses(t, counted(2, line(file("b")), line(file("a"))), api.ErrForm)
	checkReadRefuses(t, counted(2, line(file("b")), line(file("b"))), api.ErrForm)
}

func TestReadTakesAsMuchAsThereMayBe(t *testing.T) {
	if l, err := tree.Read(counted(64, many(64)...)); len(l) != 64 || err != api.OK {
		t.Errorf("Read of 64 nodes: %d, %v", len(l), err)
	}
	n := api.Node{Name: strings.Repeat("\U0010ffff", 24), Kind: 1, Mode: 511, Time: -1 << 63, Size: 4096, Parts: oddIDs(5, 300)}
	if l, err := tree.Read(counted(1, line(n))); !same(l, []api.Node{n}) || err != api.OK {
		t.Errorf("Read of the greatest numbers: %v, %v", l, err)
	}
	n = link("a", strings.Repeat("\x00", 1024))
	if l, err := tree.Read(counted(1, line(n))); !same(l, []api.Node{n}) || err != api.OK {
		t.Errorf("Read of the longest link: %v, %v", l, err)
	}
}

// Whatever its bytes are, a text of more than 4096 is too large.
func TestReadRefusesLongTexts(t *testing.T) {
	var links []api.Node
	for _, name := range []string{"a", "b", "c", "d"} {
		links = append(links, link(name, strings.Repeat("l", 1020)))
	}
	for _, s := range []string{written(links), counted(0), counted(1), "\x09", "\xff", counted(65), counted(1, "a\x00\x01")} {
		for _, size := range []int{4097, 4098, 8192, 65536, 1 << 20} {
			if len(s) < size {
				checkReadRefuses(t, s+strings.Repeat("\x00", size-len(s)), api.ErrLarge)
			}
		}
	}
	checkReadRefuses(t, counted(0)+strings.Repeat("\x00", 4095), api.ErrForm)
	checkReadRefuses(t, "\x09"+strings.Repeat("\x00", 4095), api.ErrForm)
	checkReadRefuses(t, counted(1)+strings.Repeat("a", 1024)+strings.Repeat("\x00", 3070), api.ErrForm)
}

// changed are like s with one byte changed, left out or put in, and shortened.
func changed(s string) []string {
	var all []string
	for at := range len(s) {
		for _, c := range []byte{0, 1, 2, 3, 4, 8, 9, 'a', '/', 127, 128, 129, 255, s[at] + 1, s[at] - 1} {
			all = append(all, s[:at]+string([]byte{c})+s[at+1:], s[:at]+string([]byte{c})+s[at:])
		}
		all = append(all, s[:at]+s[at+1:], s[:at], s[at:])
	}
	return all
}

func TestReadWordByWord(t *testing.T) {
	for _, c := range known {
		for _, s := range changed(byHex(t, c.form)) {
			checkRead(t, s)
		}
	}
	for _, c := range countFaults {
		for _, s := range changed(c.s[:min(60, len(c.s))]) {
			checkRead(t, s)
		}
	}
	for _, c := range nodeFaults {
		for _, s := range changed(counted(1, c.s[:min(60, len(c.s))])) {
			checkRead(t, s)
		}
	}
	for seed := range 5 {
		for _, s := range changed(written(oddNodes(seed*40, 10))) {
			checkRead(t, s)
		}
	}
}

// eachText tells all texts of up to n of these bytes behind head.
func eachText(head, of string, n int, tell func(string)) {
	tell(head)
	if n == 0 {
		return
	}
	for i := range len(of) {
		eachText(head+of[i:i+1], of, n-1, tell)
	}
}

func TestReadOfAllShortTexts(t *testing.T) {
	eachText("", "\x00\x01\x02\x09a", 6, func(s string) { checkRead(t, s) })
	// All behind a Name, and behind a Kind.
	eachText("\x01\x01a\x00\x00", "\x00\x01\x02\x03\x80", 7, func(s string) { checkRead(t, s) })
	eachText(counted(1, head("a", 3)+none+now+none+none), "\x00\x01a\xff", 6, func(s string) { checkRead(t, s) })
	// A second node.
	eachText(counted(2, line(file("b"))), "\x00ab\x01\x80", 6, func(s string) { checkRead(t, s) })
}
