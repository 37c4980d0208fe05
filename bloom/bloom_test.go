package bloom_test

import (
	"encoding/binary"
	"encoding/hex"
	"hash/crc32"
	"math"
	"math/big"
	"testing"

	"lumberroom/api"
	"lumberroom/bloom"
)

// odd has n bytes that show no order.
func odd(seed, n int) []byte {
	b := make([]byte, n)
	for i := range b {
		seed = (seed*1103515245 + 12345) % (1 << 31)
		b[i] = byte(seed >> 16)
	}
	return b
}

func oddID(seed int) api.ID { return api.ID(odd(seed, 8)) }

func oddBloom(seed int) api.Bloom {
	var b api.Bloom
	for i := range b {
		b[i] = binary.BigEndian.Uint64(odd(seed*16+i, 8))
	}
	return b
}

func idOf(a, b uint32) api.ID {
	var id api.ID
	binary.BigEndian.PutUint32(id[:], a)
	binary.BigEndian.PutUint32(id[4:], b)
	return id
}

func byHex(t testing.TB, s string) api.ID {
	t.Helper()
	raw, err := hex.DecodeString(s)
	if err != nil {
		t.Fatal(err)
	}
	return api.ID(raw)
}

// flags are the bits of a Bloom, one by one.
type flags [1024]bool

func flagsOf(b api.Bloom) flags {
	var f flags
	at := 0
	for _, word := range b {
		for range 64 {
			f[at] = word%2 == 1
			word /= 2
			at++
		}
	}
	return f
}

func bloomOf(f flags) api.Bloom {
	var b api.Bloom
	for at := 1023; at >= 0; at-- {
		b[at/64] *= 2
		if f[at] {
			b[at/64]++
		}
	}
	return b
}

func full() api.Bloom {
	var b api.Bloom
	for i := range b {
		b[i] = math.MaxUint64
	}
	return b
}

func without(b api.Bloom, at int) api.Bloom {
	f := flagsOf(b)
	f[at] = false
	return bloomOf(f)
}

// someBlooms have no bit, one, some, all but one, all.
func someBlooms() []api.Bloom {
	l := []api.Bloom{{}, full(), {1}, {15: 1 << 63}, {0: 1 << 63, 1: 1}, {7: math.MaxUint64}}
	for seed := range 6 {
		var few api.Bloom
		for i := range 30 * seed {
			few = slowAdd(few, oddID(900*seed+i))
		}
		l = append(l, oddBloom(seed), few, without(full(), 200*seed))
	}
	return l
}

// slowMarks works with numbers of any size.
func slowMarks(id api.ID) [4]int {
	a, b := new(big.Int).SetBytes(id[:4]), new(big.Int).SetBytes(id[4:])
	var l [4]int
	for i := range l {
		rest := new(big.Int).Mod(a, big.NewInt(1024))
		l[i] = int(rest.Int64())
		a.Add(a, b)
	}
	return l
}

func slowAdd(b api.Bloom, id api.ID) api.Bloom {
	f := flagsOf(b)
	for _, k := range slowMarks(id) {
		f[k] = true
	}
	return bloomOf(f)
}

func slowHas(b api.Bloom, id api.ID) bool {
	f, l := flagsOf(b), slowMarks(id)
	return f[l[0]] && f[l[1]] && f[l[2]] && f[l[3]]
}

// marked were worked out by another program.
var marked = []struct {
	id    string
	marks [4]int
}{
	{"0000000000000000", [4]int{0, 0, 0, 0}},
	{"0000000700000001", [4]int{7, 8, 9, 10}},
	{"0000003f00000001", [4]int{63, 64, 65, 66}},
	{"0000004000000040", [4]int{64, 128, 192, 256}},
	{"000000ff00000101", [4]int{255, 512, 769, 2}},
	// Round the end.
	{"000003ff00000000", [4]int{1023, 1023, 1023, 1023}},
	{"000003ff00000001", [4]int{1023, 0, 1, 2}},
	{"00000400000003ff", [4]int{0, 1023, 1022, 1021}},
	{"ffffffff00000001", [4]int{1023, 0, 1, 2}},
	{"ffffffffffffffff", [4]int{1023, 1022, 1021, 1020}},
	// Some of them the same.
	{"0000000000000100", [4]int{0, 256, 512, 768}},
	{"0000000000000155", [4]int{0, 341, 682, 1023}},
	{"0000000000000200", [4]int{0, 512, 0, 512}},
	{"0000000000000400", [4]int{0, 0, 0, 0}},
	// The high bytes are lost.
	{"8000000080000000", [4]int{0, 0, 0, 0}},
	{"0001000000010000", [4]int{0, 0, 0, 0}},
	{"fffffc0000000001", [4]int{0, 1, 2, 3}},
	// Which byte is the highest.
	{"0102030405060708", [4]int{772, 524, 276, 28}},
	{"0807060504030201", [4]int{517, 6, 519, 8}},
	{"123456789abcdef0", [4]int{632, 360, 88, 840}},
}

func marksOf(l [4]int) api.Bloom {
	var f flags
	for _, k := range l {
		f[k] = true
	}
	return bloomOf(f)
}

func TestAddMarks(t *testing.T) {
	for _, c := range marked {
		id, want := byHex(t, c.id), marksOf(c.marks)
		if b := bloom.Add(api.Bloom{}, id); b != want {
			t.Errorf("Add %s to no bits: %x, want bits %v", c.id, b, c.marks)
		}
		if b := bloom.Add(full(), id); b != full() {
			t.Errorf("Add %s to all bits: %x", c.id, b)
		}
		if b := bloom.Add(want, id); b != want {
			t.Errorf("Add %s again: %x, want %x", c.id, b, want)
		}
	}
}

func TestAddLeavesTheOtherBits(t *testing.T) {
	for _, b := range someBlooms() {
		for _, c := range marked {
			want := flagsOf(b)
			for _, k := range c.marks {
				want[k] = true
			}
			if got := bloom.Add(b, byHex(t, c.id)); flagsOf(got) != want {
				t.Errorf("Add %s to %x: %x", c.id, b, got)
			}
		}
	}
}

func TestHasAsksAllMarks(t *testing.T) {
	for _, c := range marked {
		id := byHex(t, c.id)
		if !bloom.Has(marksOf(c.marks), id) || !bloom.Has(full(), id) {
			t.Errorf("%s is not there, with all its marks", c.id)
		}
		if bloom.Has(api.Bloom{}, id) {
			t.Errorf("%s is there with no bit", c.id)
		}
		for _, k := range c.marks {
			if bloom.Has(without(full(), k), id) || bloom.Has(without(marksOf(c.marks), k), id) {
				t.Errorf("%s is there without bit %d", c.id, k)
			}
		}
	}
}

func TestHasAsksNothingButMarks(t *testing.T) {
	for _, c := range marked {
		isMark := flagsOf(marksOf(c.marks))
		for k := range 1024 {
			if has := bloom.Has(without(full(), k), byHex(t, c.id)); has == isMark[k] {
				t.Errorf("Has %s with all bits but %d: %v", c.id, k, has)
			}
		}
	}
}

// These were worked out by another program.
func TestAddOfMany(t *testing.T) {
	for _, c := range []struct {
		seed, ids, count int
		checksum         uint32
	}{
		{0, 1, 4, 0x835ecc39},
		{1, 10, 40, 0xfcf96a1b},
		{2, 100, 339, 0x4b71ec14},
		{3, 200, 574, 0x71e11ea9},
		{4, 1000, 1016, 0x3a1c1682},
		{5, 3000, 1024, 0x652d544c},
	} {
		var b api.Bloom
		for i := range c.ids {
			b = bloom.Add(b, oddID(5000*c.seed+i))
		}
		var raw []byte
		for _, word := range b {
			raw = binary.BigEndian.AppendUint64(raw, word)
		}
		if sum := crc32.ChecksumIEEE(raw); sum != c.checksum || bloom.Count(b) != c.count {
			t.Errorf("%d IDs: %d bits, checksum %x, want %d, %x", c.ids, bloom.Count(b), sum, c.count, c.checksum)
		}
	}
}

// What was added is there, whatever else was; with few of them most others
// are not.
func TestWhatIsNotThereWasNotAdded(t *testing.T) {
	for seed := range 20 {
		var b api.Bloom
		for i := range 60 {
			b = bloom.Add(b, oddID(1000*seed+i))
			for j := range i + 1 {
				if !bloom.Has(b, oddID(1000*seed+j)) {
					t.Fatalf("of %d IDs number %d is not there", i+1, j)
				}
			}
		}
		others := 0
		for i := range 600 {
			if bloom.Has(b, oddID(1000*seed+100+i)) {
				others++
			}
		}
		if others > 60 {
			t.Errorf("%d of 600 IDs that were not added are there", others)
		}
	}
}

func TestAddInAnyOrder(t *testing.T) {
	for seed := range 50 {
		var there, back api.Bloom
		for i := range seed {
			there = bloom.Add(there, oddID(100*seed+i))
			back = bloom.Add(back, oddID(100*seed+seed-1-i))
		}
		if there != back {
			t.Errorf("%d IDs make other bits in another order", seed)
		}
	}
}

// The marks hang on the rests of both numbers alone: here are all of them.
func TestMarksOfAllRests(t *testing.T) {
	for a := range uint32(1024) {
		for b := range uint32(1024) {
			var want api.Bloom
			for i := range uint32(4) {
				k := (a + i*b) % 1024
				want[k>>6] |= 1 << (k & 63)
			}
			// High bits that another pair of rests does not have.
			id := idOf(a|(a*977+b)<<10, b|(b*991+a)<<10)
			got := bloom.Add(api.Bloom{}, id)
			if got != want || !bloom.Has(want, id) {
				t.Fatalf("Add %x: %x, want %x", id, got, want)
			}
		}
	}
}
