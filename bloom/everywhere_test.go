package bloom_test

import (
	"encoding/binary"
	"slices"
	"testing"

	"lumberroom/api"
	"lumberroom/bloom"
)

// checkBloom: whatever comes, the calls answer what they should, the same each
// time.
func checkBloom(t *testing.T, b api.Bloom, id api.ID) {
	t.Helper()
	added, has, count := slowAdd(b, id), slowHas(b, id), slowCount(b)
	for range 2 {
		if got := bloom.Add(b, id); got != added || !bloom.Has(got, id) {
			t.Fatalf("Add %x to %x: %x, want %x", id, b, got, added)
		}
		if got := bloom.Has(b, id); got != has {
			t.Fatalf("Has %x in %x: %v, want %v", id, b, got, has)
		}
		if got := bloom.Count(b); got != count {
			t.Fatalf("Count(%x) = %d, want %d", b, got, count)
		}
	}
}

// checkJoin: whatever comes, Join answers what it should, the same each time,
// and leaves the list and its spare memory as they were.
func checkJoin(t *testing.T, l []api.Bloom) {
	t.Helper()
	memory, want := slices.Clone(l[:cap(l)]), slowJoin(l)
	for range 2 {
		if got := bloom.Join(l...); got != want {
			t.Fatalf("Join of %d: %x, want %x", len(l), got, want)
		}
	}
	if !slices.Equal(l[:cap(l)], memory) {
		t.Fatalf("a list of %d was changed", len(l))
	}
}

func TestCallsAnswerAnything(t *testing.T) {
	edges := []uint32{0, 1, 255, 256, 341, 511, 512, 682, 683, 1023, 1024, 1025, 1<<16 - 1, 1 << 16, 1<<31 - 1, 1 << 31, 1<<32 - 1024, 1<<32 - 1}
	l := someBlooms()
	for _, b := range l {
		for _, x := range edges {
			for _, y := range edges {
				checkBloom(t, b, idOf(x, y))
			}
		}
	}
	for seed := range 2000 {
		checkBloom(t, oddBloom(seed), oddID(seed))
		checkBloom(t, bloom.Join(oddBloom(seed), oddBloom(seed+1), oddBloom(seed+2)), oddID(seed))
	}
	for from := range l {
		for to := from; to <= len(l); to++ {
			checkJoin(t, l[from:to])
		}
	}
	checkJoin(t, nil)
	checkJoin(t, make([]api.Bloom, 5000))
	checkJoin(t, append(make([]api.Bloom, 5000), api.Bloom{5: 9}))
}

func TestCallsKeepNothing(t *testing.T) {
	b, id := oddBloom(1), oddID(7)
	added, has, count, joined := bloom.Add(b, id), bloom.Has(b, id), bloom.Count(b), bloom.Join(b, api.Bloom{1})
	for _, other := range someBlooms() {
		for _, c := range marked {
			bloom.Add(other, byHex(t, c.id))
			bloom.Has(other, byHex(t, c.id))
		}
		bloom.Join(other, full())
		bloom.Count(other)
	}
	if bloom.Add(b, id) != added || bloom.Has(b, id) != has || bloom.Count(b) != count || bloom.Join(b, api.Bloom{1}) != joined {
		t.Error("what was asked in between is to be seen in the answer")
	}
	if bloom.Join() != (api.Bloom{}) || bloom.Add(api.Bloom{}, api.ID{}) != (api.Bloom{1}) {
		t.Error("an empty Bloom is not empty any more")
	}
}

// Blooms and IDs are values, but those of a list lie in memory of another.
func TestWhatIsHandedInIsNotChanged(t *testing.T) {
	id := oddID(3)
	l := someBlooms()
	for i := range l {
		bloom.Add(l[i], id)
		bloom.Has(l[i], id)
		bloom.Count(l[i])
		checkJoin(t, l[:i])
	}
	if !slices.Equal(l, someBlooms()) || id != oddID(3) {
		t.Error("what was handed in was changed")
	}
}

// A list that was changed is read anew, and what was joined ahead stays.
func TestListsAreNotKept(t *testing.T) {
	l := make([]api.Bloom, 5, 9)
	for i := range l {
		before := slowJoin(l)
		joined := bloom.Join(l...)
		l[i] = oddBloom(i)
		checkJoin(t, l)
		if joined != before {
			t.Error("what was joined changes with its list")
		}
	}
}

// cutUp are Blooms of 128 bytes each, the last one filled up.
func cutUp(s []byte) []api.Bloom {
	var l []api.Bloom
	for part := range slices.Chunk(s, 128) {
		whole := append(slices.Clone(part), make([]byte, 128-len(part))...)
		var b api.Bloom
		for i := range b {
			b[i] = binary.BigEndian.Uint64(whole[8*i:])
		}
		l = append(l, b)
	}
	return l
}

func FuzzBlooms(f *testing.F) {
	f.Add([]byte("some bytes of which a Bloom is made"), uint32(7), uint32(1))
	f.Add(odd(1, 400), uint32(1<<32-1), uint32(1<<32-1))
	f.Fuzz(func(t *testing.T, s []byte, x, y uint32) {
		l := cutUp(s)
		checkJoin(t, l)
		checkBloom(t, bloom.Join(l...), idOf(x, y))
		for _, b := range l {
			checkBloom(t, b, idOf(x, y))
			checkBloom(t, bloom.Add(b, idOf(x, y)), idOf(y, x))
		}
	})
}
