package sweep_test

import (
	"hash/crc32"
	"slices"
	"testing"

	"lumberroom/api"
	"lumberroom/sweep"
)

func TestLive(t *testing.T) {
	for _, c := range []struct{ what, h, want string }{
		{"no things", "|", ""},
		{"no things, while marking", "| !", ""},
		{"no roots", "w1 w0 w2 |", "..."},
		{"a root", "w |0", "x"},
		{"roots", "w w w w | 3 1", ".x.x"},
		{"a root, more than once", "w w | 1 1 1", ".x"},
		{"a kid", "w1 w w | 0", "xx."},
		{"a kid of a kid", "w1 w2 w3 w | 0", "xxxx"},
		{"not whose kid it is", "w1 w2 w3 w | 2", "..xx"},
		{"kids in front", "w w0 w1 w2 | 3", "xxxx"},
		{"a kid of itself", "w0 w1 | 1", ".x"},
		{"a ring", "w1 w2 w0 w | 1", "xxx."},
		{"a ring without a root", "w1 w2 w0 w | 3", "...x"},
		{"a ring with a way to it", "w1 w2 w1 w3 | 0", "xxx."},
		{"a way from a ring", "w1 w0,2 w3 w | 2", "..xx"},
		{"two ways", "w1,2 w3 w3 w w3 | 0", "xxxx."},
		{"kids of more than one", "w2 w2 w3 w w | 1 4", ".xxxx"},
		{"many kids", "w5,1,3,3,0 w w4 w4 w w6 w w2 | 0", "xx.xxxx."},
		{"things that are Free", "- w2 w3 w - | 1", ".xxx."},
		{"nothing but things that are Free", "- - -  |", "..."},
		{"Black and Grey without a root", "b1 g2 w w | 3", "...x"},
		{"White with a root", "b1 g2 w w | 2", "..x."},
		{"of any colour", "b1 g2 w3 b | 0", "xxxx"},
		{"while marking", "w1 w w2 | 0 !", "xx."},
		{"Black and Grey, while marking", "b g b1 w | 3 !", "...x"},
		{"White, while marking", "w1 w2 w | 0 !", "xxx"},
	} {
		h := heap(c.h)
		if live, err := sweep.Live(h); marks(live) != c.want || err != api.OK {
			t.Errorf("%s: Live = %s, %v, want %s", c.what, marks(live), err, c.want)
		}
		checkLive(t, h)
	}
}

// A way as long, and kids and roots as many, as there may be.
func TestLiveOfManyThings(t *testing.T) {
	for _, count := range []int{1, 2, 39, 40} {
		up, down := rooted(lone(count)), rooted(lone(count))
		for i := range count - 1 {
			up = with(up, i, i+1)
			down = with(down, i+1, i)
		}
		ring := with(up, count-1, 0)
		for root := range count {
			for _, c := range []struct {
				what        string
				h           api.Heap
				first, last int
			}{
				{"up", up, root, count - 1},
				{"down", down, 0, root},
				{"a ring", ring, 0, count - 1},
				{"things alone", rooted(lone(count)), root, root},
			} {
				for _, many := range []int{1, 63, 64} {
					live, err := sweep.Live(rooted(c.h, times(root, many)...))
					for n := range live {
						if live[n] != (n >= c.first && n <= c.last) {
							t.Fatalf("%s of %d, root %d: Live = %s", c.what, count, root, marks(live))
						}
					}
					if len(live) != count || err != api.OK {
						t.Fatalf("%s of %d, root %d: Live = %s, %v", c.what, count, root, marks(live), err)
					}
				}
			}
		}
	}
	for last := range 40 {
		checkLive(t, rooted(lone(40), append(times(9, 63), last)...))
		checkLive(t, rooted(with(lone(40), 9, append(times(9, 63), last)...), 9))
	}
}

// What is live hangs on no colour, and not on whether marking goes on.
func TestLiveOfOtherColours(t *testing.T) {
	for seed := range 1000 {
		h := oddHeap(seed)
		want, _ := slowLive(h)
		for i := range h.Things {
			if !h.Things[i].Free {
				h.Things[i].Colour = (h.Things[i].Colour + 1 + i%2) % 3
			}
		}
		h.Busy = !h.Busy
		if live, err := sweep.Live(h); !slices.Equal(live, want) || err != api.OK {
			t.Fatalf("seed %d: Live = %s, %v, and %s of other colours", seed, marks(live), err, marks(want))
		}
	}
}

// The checksums of this package's tests were worked out by another program.
func checkSum(t *testing.T, what string, all []byte, want uint32) {
	t.Helper()
	if sum := crc32.ChecksumIEEE(all); sum != want {
		t.Errorf("the checksum of %s is %08x, want %08x", what, sum, want)
	}
}

// smallThings are all things that one of so many things may be: Free, or of
// each colour with each of the lists of kids, rising.
func smallThings(count int) []api.Thing {
	all := []api.Thing{{Free: true}}
	for colour := range 3 {
		for which := range 1 << count {
			all = append(all, api.Thing{Colour: colour, Kids: bitsOf(which)})
		}
	}
	return all
}

// bitsOf are the numbers of the bits that are set.
func bitsOf(n int) []int {
	var l []int
	for i := 0; n>>i > 0; i++ {
		if n>>i&1 == 1 {
			l = append(l, i)
		}
	}
	return l
}

// small are all heaps of so many things, equal kids and roots, and roots that
// fall, left out: those that are right, and those that are not as they have
// kids or roots that are Free.
func small(count int, do func(h api.Heap)) {
	things := smallThings(count)
	which := make([]int, count)
	for {
		h := api.Heap{Things: make([]api.Thing, count)}
		for i, n := range which {
			h.Things[i] = things[n]
		}
		for roots := range 1 << count {
			h.Roots = bitsOf(roots)
			for _, h.Busy = range []bool{false, true} {
				do(h)
			}
		}
		i := 0
		for i < count && which[i] == len(things)-1 {
			which[i] = 0
			i++
		}
		if i == count {
			return
		}
		which[i]++
	}
}

func TestLiveOfSmallHeaps(t *testing.T) {
	for _, c := range []struct {
		count int
		want  uint32
	}{{0, 0xe36b7d86}, {1, 0xafb9ad4c}, {2, 0xb15d6746}, {3, 0xdef975df}} {
		var all []byte
		small(c.count, func(h api.Heap) {
			live, err := sweep.Live(h)
			all = append(all, byte('0'+err))
			all = append(all, marks(live)+"\n"...)
		})
		checkSum(t, "what is live in small heaps", all, c.want)
	}
}

func TestLiveOfOddHeaps(t *testing.T) {
	var all []byte
	for seed := range 3000 {
		live, err := sweep.Live(oddHeap(seed))
		if err != api.OK {
			t.Fatalf("seed %d: %v", seed, err)
		}
		all = append(all, marks(live)+"\n"...)
	}
	checkSum(t, "what is live in odd heaps", all, 0x411a13a9)
}
