package graph_test

import (
	"hash/crc32"
	"slices"
	"testing"

	"lumberroom/api"
	"lumberroom/graph"
)

// down has each thing's neighbour in front of it as its kid, up the one behind
// it, ring is up with the first one behind the last one.
func down(count int) [][]int {
	kids := lone(count)
	for i := 1; i < count; i++ {
		kids[i] = []int{i - 1}
	}
	return kids
}

func up(count int) [][]int {
	kids := lone(count)
	for i := range count - 1 {
		kids[i] = []int{i + 1}
	}
	return kids
}

func ring(count int) [][]int { return with(up(count), count-1, 0) }

type reached struct {
	roots []int
	want  string
}

var someGraphs = []struct {
	what    string
	kids    [][]int
	reaches []reached
}{
	{"a kid, and one alone", [][]int{{1}, nil, nil}, []reached{
		{nil, "..."}, {[]int{}, "..."}, {[]int{0}, "xx."}, {[]int{1}, ".x."}, {[]int{2}, "..x"}, {[]int{0, 2}, "xxx"}, {[]int{2, 1}, ".xx"},
		{[]int{0, 1}, "xx."}, {[]int{1, 0}, "xx."}, {[]int{1, 1, 1}, ".x."},
	}},
	{"one alone", lone(1), []reached{{nil, "."}, {[]int{0}, "x"}, {[]int{0, 0}, "x"}}},
	{"a kid of itself", [][]int{{0}, nil}, []reached{{nil, ".."}, {[]int{0}, "x."}, {[]int{1}, ".x"}}},
	{"up", up(5), []reached{
		{[]int{0}, "xxxxx"}, {[]int{1}, ".xxxx"}, {[]int{2}, "..xxx"}, {[]int{4}, "....x"}, {[]int{4, 3}, "...xx"}, {[]int{3, 1}, ".xxxx"},
	}},
	{"down", down(5), []reached{
		{[]int{0}, "x...."}, {[]int{1}, "xx..."}, {[]int{3}, "xxxx."}, {[]int{4}, "xxxxx"}, {[]int{0, 2}, "xxx.."},
	}},
	{"a ring", ring(4), []reached{{nil, "...."}, {[]int{0}, "xxxx"}, {[]int{2}, "xxxx"}, {[]int{3, 1}, "xxxx"}}},
	{"two rings", [][]int{{2}, {3}, {0}, {1}}, []reached{{[]int{0}, "x.x."}, {[]int{1}, ".x.x"}, {[]int{3}, ".x.x"}, {[]int{2, 3}, "xxxx"}}},
	{"a ring that leads to another one", [][]int{{1}, {0, 3}, {3}, {2}}, []reached{
		{[]int{0}, "xxxx"}, {[]int{1}, "xxxx"}, {[]int{2}, "..xx"}, {[]int{3}, "..xx"},
	}},
	{"a ring with a way to it", [][]int{{1}, {2}, {1}}, []reached{{[]int{0}, "xxx"}, {[]int{1}, ".xx"}, {[]int{2}, ".xx"}}},
	{"one kid of two", [][]int{{2}, {2}, {3}, nil}, []reached{{[]int{0}, "x.xx"}, {[]int{1}, ".xxx"}, {[]int{1, 0}, "xxxx"}}},
	{"two ways to one", [][]int{{1, 2}, {3}, {3}, nil, {0}}, []reached{{[]int{0}, "xxxx."}, {[]int{2}, "..xx."}, {[]int{4}, "xxxxx"}}},
	{"many kids", [][]int{{5, 1, 3, 3, 0}, nil, {4}, {4}, nil, {6}, nil, {2}}, []reached{
		{[]int{0}, "xx.xxxx."}, {[]int{7}, "..x.x..x"}, {[]int{3, 5}, "...xxxx."}, {[]int{7, 0}, "xxxxxxxx"},
	}},
	{"no things", nil, []reached{{nil, ""}, {[]int{}, ""}}},
}

func TestReach(t *testing.T) {
	for _, c := range someGraphs {
		for _, x := range c.reaches {
			if l, err := graph.Reach(c.kids, x.roots); marks(l) != x.want || err != api.OK {
				t.Errorf("%s: Reach of %v = %s, %v, want %s", c.what, x.roots, marks(l), err, x.want)
			}
			checkReach(t, c.kids, x.roots)
		}
	}
}

// Ways as long, and kids and roots as many, as there may be.
func TestReachOfManyThings(t *testing.T) {
	for _, count := range []int{1, 2, 63, 64, 65, 199, 200} {
		for root := range count {
			for _, c := range []struct {
				what        string
				kids        [][]int
				first, last int
			}{
				{"up", up(count), root, count - 1},
				{"down", down(count), 0, root},
				{"ring", ring(count), 0, count - 1},
				{"lone", lone(count), root, root},
			} {
				for _, many := range []int{1, 63, 64} {
					l, err := graph.Reach(c.kids, times(root, many))
					for n := range l {
						if l[n] != (n >= c.first && n <= c.last) {
							t.Fatalf("%s of %d: Reach of %d = %s", c.what, count, root, marks(l))
						}
					}
					if len(l) != count || err != api.OK {
						t.Fatalf("%s of %d: Reach of %d = %d things, %v", c.what, count, root, len(l), err)
					}
				}
			}
		}
	}
	for _, last := range []int{0, 62, 63, 137, 199} {
		checkReach(t, lone(200), append(times(99, 63), last))
		checkReach(t, with(lone(200), 99, append(times(99, 63), last)...), []int{99})
	}
}

func TestReachOfWrongRoots(t *testing.T) {
	for _, c := range []struct {
		what  string
		kids  [][]int
		roots []int
		want  api.Errno
	}{
		{"a root of no things", nil, []int{0}, api.ErrArg},
		{"a root behind the things", lone(3), []int{3}, api.ErrArg},
		{"a root ahead of the things", lone(3), []int{-1}, api.ErrArg},
		{"a wrong root behind a right one", up(3), []int{0, 3}, api.ErrArg},
		{"a wrong root ahead of a right one", up(3), []int{-3, 0}, api.ErrArg},
		{"a root behind 200 things", ring(200), []int{200}, api.ErrArg},
		{"64 roots, the last one wrong", lone(200), append(times(7, 63), 200), api.ErrArg},
		{"64 wrong roots", lone(200), times(200, 64), api.ErrArg},
		{"65 roots", lone(200), times(7, 65), api.ErrLarge},
		{"65 roots of one thing", lone(1), times(0, 65), api.ErrLarge},
		{"65 roots of no things", nil, times(0, 65), api.ErrLarge},
		{"65 roots, the first one wrong", lone(200), append([]int{-1}, times(7, 64)...), api.ErrLarge},
		{"65 wrong roots", lone(200), times(200, 65), api.ErrLarge},
		{"128 roots", ring(200), times(7, 128), api.ErrLarge},
		{"256 roots", ring(200), times(7, 256), api.ErrLarge},
		{"257 roots", ring(200), times(7, 257), api.ErrLarge},
	} {
		if l, err := graph.Reach(c.kids, c.roots); l != nil || err != c.want {
			t.Errorf("%s: Reach = %s, %v, want %v", c.what, marks(l), err, c.want)
		}
	}
	for _, things := range []int{1, 2, 64, 200} {
		for _, many := range []int{1, 2, 64} {
			for _, at := range []int{0, many / 2, many - 1} {
				for _, n := range append([]int{things, things + 1, -things}, noThings...) {
					roots := times(things-1, many)
					roots[at] = n
					if l, err := graph.Reach(lone(things), roots); l != nil || err != api.ErrArg {
						t.Fatalf("Reach of %d things, roots %v = %s, %v, want ErrArg", things, roots, marks(l), err)
					}
				}
			}
		}
	}
}

// The checksums of this package's tests were worked out by another program.
func checkSum(t *testing.T, what string, all []byte, want uint32) {
	t.Helper()
	if sum := crc32.ChecksumIEEE(all); sum != want {
		t.Errorf("the checksum of %s is %08x, want %08x", what, sum, want)
	}
}

// bitsOf are the numbers of the bits that are set.
func bitsOf(n int) []int {
	var l []int
	for i := 0; n>>i > 0; i++ {
		if n>>i&1 == 1 {
			l = append(l, i)
		}
	}
	return l
}

// small is one of the graphs of so many things.
func small(count, which int) [][]int {
	kids := lone(count)
	for i := range kids {
		kids[i] = bitsOf(which >> (i * count) & (1<<count - 1))
	}
	return kids
}

// All graphs of four things, and all their roots.
func TestReachOfSmallGraphs(t *testing.T) {
	var all []byte
	for which := range 1 << 16 {
		kids := small(4, which)
		for roots := range 1 << 4 {
			l, err := graph.Reach(kids, bitsOf(roots))
			if err != api.OK {
				t.Fatalf("Reach(%s, %v): %v", short(kids), bitsOf(roots), err)
			}
			all = append(all, marks(l)...)
		}
	}
	checkSum(t, "what is reached in small graphs", all, 0xacaf3b4c)
}

func TestReachOfOddGraphs(t *testing.T) {
	var all []byte
	for seed := range 5000 {
		l, err := graph.Reach(oddKids(seed), oddRoots(seed))
		if err != api.OK {
			t.Fatalf("seed %d: %v", seed, err)
		}
		all = append(all, marks(l)+"\n"...)
	}
	checkSum(t, "what is reached in odd graphs", all, 0x88a9faf4)
}

// Of two lists of roots what one of them reaches is reached.
func TestReachOfMoreRoots(t *testing.T) {
	for seed := range 1000 {
		kids, a, b := oddKids(seed), oddRoots(seed), oddRoots(seed)
		slices.Reverse(b)
		a, b = a[:len(a)/2], b[:(len(b)+1)/2]
		ofA, _ := graph.Reach(kids, a)
		ofB, _ := graph.Reach(kids, b)
		both, err := graph.Reach(kids, slices.Concat(a, b))
		if err != api.OK {
			t.Fatalf("seed %d: %v", seed, err)
		}
		for i := range both {
			if both[i] != (ofA[i] || ofB[i]) {
				t.Fatalf("seed %d: thing %d is reached of both lists: %v, of the one: %v, of the other one: %v", seed, i, both[i], ofA[i], ofB[i])
			}
		}
	}
}
