package walk_test

import (
	"encoding/binary"
	"strings"
	"testing"

	"lumberroom/api"
	"lumberroom/mix"
	"lumberroom/pack"
	"lumberroom/tree"
)

func data(s string) api.Blob { return api.Blob{Kind: api.KData, Bytes: s} }

func snap(s string) api.Blob { return api.Blob{Kind: api.KSnap, Bytes: s} }

// treeOf is the blob of a directory.
func treeOf(t testing.TB, nodes ...api.Node) api.Blob {
	t.Helper()
	s, err := tree.Write(nodes)
	if err != api.OK {
		t.Fatal(err)
	}
	return api.Blob{Kind: api.KTree, Bytes: s}
}

func blockAt(s string, at int) uint64 {
	var block [8]byte
	copy(block[:], s[at:])
	return binary.LittleEndian.Uint64(block[:])
}

// tuned is the blob of s with other bytes in the block at that place, so that
// its ID comes to id. A block begins at each seventh of eight bytes, since the
// Kind stands ahead of them.
func tuned(t testing.TB, kind int, s string, at int, id api.ID) api.Blob {
	t.Helper()
	whole := string([]byte{byte(kind)}) + s
	at++
	var x uint64
	for i := 0; i < at; i += 8 {
		x = mix.Step(x, blockAt(whole, i))
	}
	y := mix.Undo(binary.BigEndian.Uint64(id[:]), uint64(len(whole)))
	for i := (len(whole) - 1) / 8 * 8; i > at; i -= 8 {
		y = mix.Undo(y, blockAt(whole, i))
	}
	block := binary.LittleEndian.AppendUint64(nil, mix.Undo(y, x))
	b := api.Blob{Kind: kind, Bytes: whole[1:at] + string(block) + whole[at+8:]}
	if got, err := pack.ID(b); got != id || err != api.OK {
		t.Fatalf("the ID is %x, %v, not %x", got, err, id)
	}
	return b
}

// clash is another blob KData of n bytes (15 at least) with the ID of b.
func clash(t testing.TB, b api.Blob, n int) api.Blob {
	t.Helper()
	other := tuned(t, api.KData, odd(n, n), 7, idOf(b))
	if other == b {
		t.Fatal("the blobs are the same")
	}
	return other
}

// selfish is the blob of a directory with that ID, which has nodes, then below
// a "z" itself, and a file behind that.
func selfish(t testing.TB, id api.ID, nodes ...api.Node) api.Blob {
	t.Helper()
	place := "\xfe\xfd\xfc\xfb\xfa\xf9\xf8\xf7"
	for n := 1; n <= 8; n++ {
		last := api.Node{Name: strings.Repeat("~", n), Kind: api.NFile, Parts: []api.ID{api.ID([]byte(place))}}
		b := treeOf(t, append(nodes[:len(nodes):len(nodes)], api.Node{Name: "z", Kind: api.NDir, Parts: []api.ID{id}}, last)...)
		if at := strings.Index(b.Bytes, place); at%8 == 7 {
			return tuned(t, api.KTree, b.Bytes, at, id)
		}
	}
	t.Fatal("no block begins where the part does")
	return api.Blob{}
}

// timed is a link by the side of those nodes with such a Time that the blob of
// all of them has that ID.
func timed(t testing.TB, id api.ID, nodes ...api.Node) api.Node {
	t.Helper()
	place := strings.Repeat("\x01", 8)
	last := api.Node{Kind: api.NLink, Link: "l", Time: 0x0101010101010101}
	for n := 1; n <= 8; n++ {
		for last.Mode = 2; last.Mode < 200; last.Mode++ {
			last.Name = strings.Repeat("~", n)
			s := treeOf(t, append(nodes[:len(nodes):len(nodes)], last)...).Bytes
			at := strings.LastIndex(s, place)
			if at%8 != 7 {
				continue
			}
			// Other first digits stand for no Time of eight digits.
			digits := tuned(t, api.KTree, s, at, id).Bytes[at : at+8]
			if '\x01' <= digits[0] && digits[0] <= '\x7f' {
				last.Time = int(binary.BigEndian.Uint64([]byte(digits)))
				return last
			}
		}
	}
	t.Fatal("there is no such Time")
	return last
}
