package walk_test

import (
	"encoding/binary"
	"encoding/hex"
	"hash/crc32"
	"math"
	"slices"
	"strings"
	"testing"

	"lumberroom/api"
	"lumberroom/walk"
)

// byHex is the text whose bytes are told by base 16, with blanks in between.
func byHex(t testing.TB, s string) string {
	t.Helper()
	b, err := hex.DecodeString(strings.ReplaceAll(s, " ", ""))
	if err != nil {
		t.Fatal(err)
	}
	return string(b)
}

func idByHex(t testing.TB, s string) api.ID {
	t.Helper()
	return api.ID([]byte(byHex(t, s)))
}

// someWays are right ones; with Fixed the Cut may be whatever it is.
var someWays = []api.Way{
	{Fixed: 16},
	{Fixed: 17},
	{Fixed: 100, Cut: api.Cut{Min: -1, Max: 2, Bits: 77}},
	{Fixed: 1023},
	{Fixed: 1024, Cut: api.Cut{Min: 16, Max: 16, Bits: 1}},
	{Cut: api.Cut{Min: 16, Max: 16, Bits: 12}},
	{Cut: api.Cut{Min: 16, Max: 64, Bits: 4}},
	{Cut: api.Cut{Min: 16, Max: 1024, Bits: 6}},
	{Cut: api.Cut{Min: 1024, Max: 1024, Bits: 1}},
	{Cut: api.Cut{Min: 64, Max: 1024, Bits: 12}},
}

// wrongWays are all told by ErrArg.
func wrongWays() []api.Way {
	right := api.Cut{Min: 16, Max: 64, Bits: 4}
	var l []api.Way
	for _, n := range []int{math.MinInt, -1024, -16, -1, 1, 2, 8, 14, 15, 1025, 1026, 2048, 4096, 1<<32 + 16, math.MaxInt} {
		l = append(l, api.Way{Fixed: n}, api.Way{Fixed: n, Cut: right})
	}
	for _, c := range []api.Cut{
		{}, {Min: 15, Max: 64, Bits: 4}, {Min: -16, Max: 64, Bits: 4}, {Min: 65, Max: 64, Bits: 4}, {Min: 16, Max: 1025, Bits: 4}, {Min: 1025, Max: 1025, Bits: 4}, {Min: 16, Max: 15, Bits: 4},
		{Min: 16, Max: 64}, {Min: 16, Max: 64, Bits: -1}, {Min: 16, Max: 64, Bits: 13}, {Min: 16, Max: 64, Bits: math.MaxInt}, {Min: math.MinInt, Max: math.MaxInt, Bits: 4},
	} {
		l = append(l, api.Way{Cut: c})
	}
	return l
}

func TestWayOK(t *testing.T) {
	for _, way := range someWays {
		if err := walk.WayOK(way); err != api.OK {
			t.Errorf("WayOK(%v) = %v", way, err)
		}
	}
	for _, way := range wrongWays() {
		if err := walk.WayOK(way); err != api.ErrArg {
			t.Errorf("WayOK(%v) = %v, want ErrArg", way, err)
		}
	}
	for n := -20; n <= 1100; n++ {
		checkWayOK(t, api.Way{Fixed: n})
		checkWayOK(t, api.Way{Fixed: n, Cut: api.Cut{Min: 16, Max: 64, Bits: 4}})
		checkWayOK(t, api.Way{Cut: api.Cut{Min: n, Max: 64, Bits: 4}})
		checkWayOK(t, api.Way{Cut: api.Cut{Min: 16, Max: n, Bits: 4}})
		checkWayOK(t, api.Way{Cut: api.Cut{Min: 16, Max: 64, Bits: n}})
	}
}

// known were worked out by another program: of each blob its Kind, and its
// bytes.
var known = []struct {
	way   api.Way
	w     []api.Item
	blobs []string
	root  string
}{
	{api.Way{Fixed: 16}, nil, []string{"02 00"}, "cce1f9e45aea1f4f"},
	{
		api.Way{Fixed: 16},
		[]api.Item{dir("/d"), file("/d/f", "0123456789abcdef0123456789abcdef!")},
		[]string{
			"01 30313233343536373839616263646566", "01 21",
			"02 0101 660000 01 00 80 0121 0103 e59eea0389ca9016 e59eea0389ca9016 ac96716656babb2c 0000",
			"02 0101 640000 02 00 80 00 0101 6ba4905e7eafa026 0000",
		},
		"7dc360c920b30b6c",
	},
	{
		api.Way{Fixed: 1024},
		[]api.Item{
			{Path: "/a", Kind: 1, Mode: 420, Time: -3, Bytes: "ab"}, {Path: "/b", Kind: 2, Mode: 493, Time: 5}, {Path: "/b/c", Kind: 3, Mode: 511, Bytes: "../a"},
			{Path: "/b/d", Kind: 1, Time: 1, Bytes: "ab"}, {Path: "/c", Kind: 2, Mode: 493, Time: 5},
		},
		[]string{
			"01 6162",
			"02 0102 630000 03 0201ff 80 00 00 2e2e2f610000 640000 01 00 8101 0102 0101 b35fbde88c833549 0000",
			"02 00",
			"02 0103 610000 01 0201a4 7efd 0102 0101 b35fbde88c833549 0000 620000 02 0201ed 8105 00 0101 59a5b997fc475238 0000 630000 02 0201ed 8105 00 0101 cce1f9e45aea1f4f 0000",
		},
		"3a49122afa17c379",
	},
	{
		api.Way{Cut: api.Cut{Min: 16, Max: 16, Bits: 1}},
		[]api.Item{{Path: "/a", Kind: 2, Mode: 1, Time: 1}, {Path: "/a/x", Kind: 1, Mode: 2, Time: 2}, {Path: "/a!", Kind: 1, Mode: 3, Time: 3, Bytes: "!"}},
		[]string{
			"02 0101 780000 01 0102 8102 00 00 0000", "01 21",
			"02 0102 610000 02 0101 8101 00 0101 b735a35f94876e7d 0000 61210000 01 0103 8103 0101 0101 ac96716656babb2c 0000",
		},
		"0433b790f982ee0d",
	},
	{
		api.Way{Cut: api.Cut{Min: 16, Max: 20, Bits: 12}},
		[]api.Item{file("/a", strings.Repeat("a", 50))},
		[]string{
			"01 6161616161616161616161616161616161616161", "01 61616161616161616161",
			"02 0101 610000 01 00 80 0132 0103 6f558bbc82873eac 6f558bbc82873eac d06a17ace2a5bfef 0000",
		},
		"4661661a7c6c4e25",
	},
}

func TestPlant(t *testing.T) {
	for i, c := range known {
		var want []api.Blob
		for _, s := range c.blobs {
			s = byHex(t, s)
			want = append(want, api.Blob{Kind: int(s[0]), Bytes: s[1:]})
		}
		root := idByHex(t, c.root)
		if l, id, err := walk.Plant(c.way, c.w); !slices.Equal(l, want) || id != root || err != api.OK {
			t.Errorf("case %d: Plant = %x, %x, %v, want %s, %s", i, l, id, err, c.blobs, c.root)
		}
		if w, err := walk.Reap(want, root); !slices.Equal(w, c.w) || err != api.OK {
			t.Errorf("case %d: Reap = %v, %v, want %v", i, w, err, c.w)
		}
	}
}

// checksum is of the Kinds, lengths and bytes of blobs.
func checksum(l []api.Blob) uint32 {
	var all []byte
	for _, b := range l {
		all = append(all, byte(b.Kind))
		all = binary.BigEndian.AppendUint16(all, uint16(len(b.Bytes)))
		all = append(all, b.Bytes...)
	}
	return crc32.ChecksumIEEE(all)
}

// These were worked out by another program.
func TestPlantOfManyItems(t *testing.T) {
	for _, c := range []struct {
		seed, count int
		way         api.Way
		blobs       int
		root        string
		checksum    uint32
	}{
		{2, 30, api.Way{Fixed: 16}, 92, "2d93f5acc2be1780", 0x4e0f152e},
		{2, 30, api.Way{Cut: api.Cut{Min: 16, Max: 64, Bits: 4}}, 50, "1a2554b35194ef0e", 0x0bc8f6f7},
		{2, 30, api.Way{Cut: api.Cut{Min: 64, Max: 1024, Bits: 8}}, 15, "198ca1fcb2b5dc8e", 0x256d354d},
		{3, 60, api.Way{Fixed: 16}, 532, "12e665aacc3c68ca", 0xa2b68ca8},
		{3, 60, api.Way{Fixed: 17}, 501, "7f34a3f13d218321", 0x0bb5ff0f},
		{3, 60, api.Way{Cut: api.Cut{Min: 16, Max: 1024, Bits: 6}}, 132, "d648976180948be9", 0x478943ca},
		{3, 60, api.Way{Cut: api.Cut{Min: 32, Max: 32, Bits: 1}}, 280, "de480561e1bea948", 0x44c9ab15},
		{3, 60, api.Way{Cut: api.Cut{Min: 16, Max: 16, Bits: 12}}, 532, "12e665aacc3c68ca", 0xa2b68ca8},
		{40, 100, api.Way{Fixed: 16}, 414, "3040de879e9aa469", 0x49d239e5},
		{40, 100, api.Way{Fixed: 1024}, 60, "ed708a242bf0acd7", 0x6a91d646},
		{40, 100, api.Way{Cut: api.Cut{Min: 16, Max: 64, Bits: 4}}, 241, "061a281a3794dca4", 0x381c7182},
		{40, 100, api.Way{Cut: api.Cut{Min: 64, Max: 1024, Bits: 8}}, 72, "cee74bf360e8d29f", 0x67c5d4b0},
		{7, 99, api.Way{Fixed: 1024}, 58, "e0e4a7733473eab3", 0x7881b796},
		{7, 99, api.Way{Cut: api.Cut{Min: 16, Max: 1024, Bits: 6}}, 175, "522b69e6dd152bd8", 0xc86f9400},
		{90, 40, api.Way{Fixed: 17}, 76, "5327819723e3a8b8", 0x7b89c37b},
		{90, 40, api.Way{Cut: api.Cut{Min: 32, Max: 32, Bits: 1}}, 50, "74c7407077c74d79", 0x6fa550c9},
	} {
		l, root, err := walk.Plant(c.way, oddWorld(c.seed, c.count))
		if sum := checksum(l); len(l) != c.blobs || root != idByHex(t, c.root) || sum != c.checksum || err != api.OK {
			t.Errorf("Plant by %v of %d items: %d blobs, %x, checksum %x, %v, want %d, %s, %x", c.way, c.count, len(l), root, sum, err, c.blobs, c.root, c.checksum)
		}
	}
}

func TestPlantWordByWord(t *testing.T) {
	for _, w := range someWorlds() {
		for _, way := range someWays {
			checkPlant(t, way, w)
		}
	}
}

func checkPlantRefuses(t *testing.T, way api.Way, w []api.Item, want api.Errno) {
	t.Helper()
	if l, root, err := walk.Plant(way, w); l != nil || root != (api.ID{}) || err != want {
		t.Errorf("Plant by %v of %d items, %s: %d blobs, %x, %v, want %v alone", way, len(w), few(w), len(l), root, err, want)
	}
}

// The way is judged ahead of the world.
func TestPlantRefusesAWrongWay(t *testing.T) {
	for _, way := range wrongWays() {
		for _, w := range [][]api.Item{nil, {file("/a", "b")}, {file("/a/b", "")}, {file("/", "")}, {dir("/a"), dir("/a")}, make([]api.Item, 101), many("", 65)} {
			checkPlantRefuses(t, way, w, api.ErrArg)
		}
	}
}

// many are so many empty files of a directory.
func many(path string, count int) []api.Item {
	var w []api.Item
	for i := range count {
		w = append(w, file(path+"/"+oddName(i, ""), ""))
	}
	return w
}

func TestPlantTellsThatADirectoryIsTooLarge(t *testing.T) {
	in := func(path string, w []api.Item) []api.Item { return append([]api.Item{dir(path)}, w...) }
	long := func(path string, more int) []api.Item {
		w := []api.Item{link(path+"/a", strings.Repeat("\x00", 1024)), link(path+"/b", strings.Repeat("b", 1024)), link(path+"/c", strings.Repeat("c", 971+more))}
		return append(w, file(path+"/d", ""), link(path+"/e", "e"))
	}
	full := func(path string, sizes ...int) []api.Item {
		var w []api.Item
		for i, size := range sizes {
			w = append(w, file(path+"/"+oddName(i, ""), odd(i, size)))
		}
		return w
	}
	for _, way := range someWays {
		for _, c := range []struct {
			w    []api.Item
			want api.Errno
		}{
			{many("", 64), api.OK},
			{many("", 65), api.ErrLarge},
			{many("", 100), api.ErrLarge},
			{in("/d", many("/d", 64)), api.OK},
			{in("/d", many("/d", 65)), api.ErrLarge},
			{append(in("/d", many("/d", 65)), link("/e", "l")), api.ErrLarge},
			{append(in("/d", many("/d", 50)), in("/e", many("/e", 48))...), api.OK},
			{append(chain(8), many("/d/d/d/d/d/d/d/d", 0)...), api.OK},
			{append(chain(7), many("/d/d/d/d/d/d/d", 64)...), api.OK},
			{append(chain(7), many("/d/d/d/d/d/d/d", 65)...), api.ErrLarge},
			{long("", 0), api.OK},
			{long("", 1), api.ErrLarge},
			{in("/d", long("/d", 0)), api.OK},
			{in("/d", long("/d", 1)), api.ErrLarge},
		} {
			_, _, err := walk.Plant(way, c.w)
			if err != c.want {
				t.Errorf("Plant by %v of %d items: %v, want %v", way, len(c.w), err, c.want)
			}
			checkPlant(t, way, c.w)
		}
	}
	text, _, _ := walk.Plant(someWays[0], long("", 0))
	if n := len(text[0].Bytes); n != 4096 {
		t.Errorf("the directory that is just not too large has %d bytes, want 4096", n)
	}
	// Many pieces of files are many Parts of a directory.
	checkPlantRefuses(t, api.Way{Fixed: 16}, full("", 4096, 4096), api.ErrLarge)
	checkPlantRefuses(t, api.Way{Fixed: 16}, in("/d", full("/d", 4096, 4090)), api.ErrLarge)
	checkPlantRefuses(t, api.Way{Cut: api.Cut{Min: 16, Max: 16, Bits: 1}}, full("", 4096, 4096), api.ErrLarge)
	for _, way := range []api.Way{{Fixed: 16}, {Fixed: 17}, {Fixed: 1024}} {
		checkPlant(t, way, full("", 4096, 4096))
		checkPlant(t, way, full("", 4096, 3900))
	}
}

// colliding are two texts of 16 bytes whose blobs KData have one ID.
func colliding(t testing.TB) (string, string) {
	a := data("0123456789abcdef")
	return a.Bytes, clash(t, a, 16).Bytes
}

func TestPlantTellsAClash(t *testing.T) {
	a, b := colliding(t)
	way := api.Way{Fixed: 16}
	cut := api.Way{Cut: api.Cut{Min: 16, Max: 16, Bits: 1}}
	for _, w := range [][]api.Item{
		{file("/a", a+b)},
		{file("/a", b+a)},
		{file("/a", a+a+b)},
		{file("/a", a+"0123456789ABCDEF"+b+"x")},
		{file("/a", a), file("/b", b)},
		{file("/a", a), file("/b", a), file("/c", b)},
		{file("/a", a), dir("/b"), file("/b/c", b)},
		{dir("/a"), dir("/a/b"), file("/a/b/c", a), dir("/d"), file("/d/e", b)},
		{dir("/a"), dir("/a/b"), file("/a/b/c", b), file("/d", odd(1, 160)), file("/e", odd(1, 160)+a)},
	} {
		checkPlantRefuses(t, way, w, api.ErrClash)
		checkPlantRefuses(t, cut, w, api.ErrClash)
		checkPlant(t, api.Way{Fixed: 32}, w)
		checkPlant(t, api.Way{Fixed: 17}, w)
	}
	// What only a link or a name has is no blob.
	for _, w := range [][]api.Item{{file("/a", a), link("/b", b)}, {link("/a", a), link("/b", b)}, {file("/a", a), file("/b", a)}, {file("/a", a), dir("/a-"), file("/a-/b", a+a)}, {file("/a", a+"-"), file("/b", "-"+b)}} {
		if _, _, err := walk.Plant(way, w); err != api.OK {
			t.Errorf("Plant of %v: %v", w, err)
		}
	}
}

// Of blobs of unlike Kinds the one that comes second is told, also that of the
// root.
func TestPlantTellsAClashWithADirectory(t *testing.T) {
	way := api.Way{Fixed: 1024}
	for _, n := range []int{15, 16, 23, 40, 1000, 1024} {
		s := clash(t, treeOf(t), n).Bytes
		checkPlantRefuses(t, way, []api.Item{dir("/a"), file("/b", s)}, api.ErrClash)
		checkPlantRefuses(t, way, []api.Item{file("/a", s), dir("/b")}, api.ErrClash)
		checkPlantRefuses(t, way, []api.Item{dir("/a"), file("/a/b", s), dir("/a/c"), dir("/a/c/d")}, api.ErrClash)
		checkPlant(t, way, []api.Item{file("/a", s)})
		node := api.Node{Name: "l", Kind: api.NLink, Link: "x", Mode: n % 512, Time: n}
		s = clash(t, treeOf(t, node), n).Bytes
		below := with(link("/a/l", "x"), func(x *api.Item) { x.Mode, x.Time = n%512, n })
		checkPlantRefuses(t, way, []api.Item{dir("/a"), below, file("/b", s)}, api.ErrClash)
		checkPlantRefuses(t, way, []api.Item{dir("/a"), file("/a!", s), dir("/b"), with(below, func(x *api.Item) { x.Path = "/b/l" })}, api.ErrClash)
		checkPlant(t, way, []api.Item{dir("/a"), with(below, func(x *api.Item) { x.Time++ }), file("/b", s)})
	}
	for seed := range 20 {
		checkPlantRefuses(t, way, rootClash(t, seed), api.ErrClash)
		w := directoryClash(t, seed)
		checkPlantRefuses(t, way, w, api.ErrClash)
		checkPlant(t, way, w[:1+seed%2])
		w[1].Time++
		checkPlant(t, way, w)
	}
}

// rootClash is a world the blob of whose root has the ID of its file's.
func rootClash(t testing.TB, seed int) []api.Item {
	s := odd(seed, 20+seed)
	last := timed(t, idOf(data(s)), api.Node{Name: "a", Kind: api.NFile, Size: len(s), Parts: []api.ID{idOf(data(s))}})
	return []api.Item{file("/a", s), {Path: "/" + last.Name, Kind: api.NLink, Mode: last.Mode, Time: last.Time, Bytes: last.Link}}
}

// directoryClash is a world two of whose directories have unlike blobs of one
// ID.
func directoryClash(t testing.TB, seed int) []api.Item {
	last := timed(t, idOf(treeOf(t, api.Node{Name: "s", Kind: api.NFile, Time: seed})))
	return []api.Item{
		dir("/a"), {Path: "/a/s", Kind: api.NFile, Time: seed},
		dir("/b"), {Path: "/b/" + last.Name, Kind: api.NLink, Mode: last.Mode, Time: last.Time, Bytes: last.Link},
	}
}

// The blobs of a directory come ahead of its own one, and that ahead of what
// stands behind it.
func TestPlantTellsTheFirstError(t *testing.T) {
	a, b := colliding(t)
	way := api.Way{Fixed: 16}
	large := append([]api.Item{dir("/m")}, many("/m", 65)...)
	for i, c := range []struct {
		w    []api.Item
		want api.Errno
	}{
		{append([]api.Item{file("/a", a+b)}, large...), api.ErrClash},
		{append([]api.Item{file("/a", a), file("/b", b)}, large...), api.ErrClash},
		{append([]api.Item{file("/a", a)}, append(large[:len(large):len(large)], file("/z", b))...), api.ErrLarge},
		{append(large[:len(large):len(large)], file("/y", a), file("/z", b)), api.ErrLarge},
		{append(large[:len(large):len(large)], file("/m/y", a), file("/m/z", b), file("/n", a)), api.ErrClash},
		{append([]api.Item{file("/a", a)}, append(large[:len(large):len(large)], file("/m/z", b))...), api.ErrClash},
		{append(many("", 65), file("/y", a), file("/z", b)), api.ErrClash},
		{append(many("", 65), file("/y", a), file("/z", a)), api.ErrLarge},
		// What Check tells is told ahead of all blobs.
		{[]api.Item{file("/a", a+b), file("/b/c", "")}, api.ErrNone},
		{append(many("", 65), file("/ ", "")), api.ErrForm},
	} {
		if l, root, err := walk.Plant(way, c.w); l != nil || root != (api.ID{}) || err != c.want {
			t.Errorf("case %d: %d blobs, %x, %v, want %v alone", i, len(l), root, err, c.want)
		}
		checkPlant(t, way, c.w)
	}
}

// variants are w with one thing changed, all unlike each other.
func variants(w []api.Item) [][]api.Item {
	var all [][]api.Item
	for i, x := range w {
		for _, change := range []func(*api.Item){
			func(x *api.Item) { x.Mode ^= 1 },
			func(x *api.Item) { x.Mode ^= 256 },
			func(x *api.Item) { x.Time++ },
			func(x *api.Item) { x.Time ^= math.MinInt },
			func(x *api.Item) { x.Bytes += "+" },
			func(x *api.Item) { x.Bytes += "\x00" },
			func(x *api.Item) { x.Bytes = x.Bytes[:len(x.Bytes)/2] },
			func(x *api.Item) { x.Kind = 4 - x.Kind },
			func(x *api.Item) { x.Kind = 2; x.Bytes = "" },
			func(x *api.Item) { x.Path += "+" },
		} {
			other := slices.Clone(w)
			other[i] = with(x, change)
			if walk.Check(other) == api.OK && other[i] != x {
				all = append(all, other)
			}
		}
		if left := slices.Concat(w[:i], w[i+1:]); walk.Check(left) == api.OK {
			all = append(all, left)
		}
	}
	return all
}

// Of one way two worlds have one root just if they are the same.
func TestRootsAreOnesOfWorlds(t *testing.T) {
	for _, way := range []api.Way{{Fixed: 16}, {Cut: api.Cut{Min: 16, Max: 64, Bits: 3}}} {
		worlds := map[api.ID][]api.Item{}
		count := 0
		all := [][]api.Item{oddWorld(2, 30), oddWorld(90, 40), rising(), chain(8), {file("/a", odd(1, 4000))}}
		for _, w := range all[:len(all):len(all)] {
			all = append(all, variants(w)...)
		}
		for _, w := range all {
			_, root, err := walk.Plant(way, w)
			if err != api.OK {
				t.Fatalf("Plant by %v of %d items: %v", way, len(w), err)
			}
			if other, there := worlds[root]; !there {
				worlds[root] = w
				count++
			} else if !slices.Equal(w, other) {
				t.Fatalf("by %v two worlds of %d and %d items have the root %x", way, len(w), len(other), root)
			}
			if _, again, _ := walk.Plant(way, slices.Clone(w)); again != root {
				t.Fatalf("by %v a world of %d items has the roots %x and %x", way, len(w), root, again)
			}
		}
		if count < 1000 {
			t.Errorf("only %d worlds", count)
		}
	}
}
