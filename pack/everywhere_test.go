package pack_test

import (
	"math"
	"slices"
	"strings"
	"testing"
	"unsafe"

	"lumberroom/api"
	"lumberroom/mix"
	"lumberroom/pack"
)

// checkID: whatever b is, its ID is the right one, or the right error is told.
func checkID(t *testing.T, b api.Blob) {
	t.Helper()
	want, wrong := mix.ID(string([]byte{byte(b.Kind)})+b.Bytes), api.OK
	if b.Kind <= 0 || b.Kind >= 4 {
		want, wrong = api.ID{}, api.ErrKind
	} else if len(b.Bytes) > 4096 {
		want, wrong = api.ID{}, api.ErrLarge
	}
	if got, err := pack.ID(b); got != want || err != wrong {
		t.Errorf("ID of kind %d, %.20q: %x, %v, want %x, %v", b.Kind, b.Bytes, got, err, want, wrong)
	}
}

// checkBlobs: whatever blobs come, the calls answer what they should, the same
// each time, and leave the list and its spare memory as they were.
func checkBlobs(t *testing.T, l []api.Blob) {
	t.Helper()
	memory := slices.Clone(l[:cap(l)])
	for range 2 {
		for _, b := range l {
			checkID(t, b)
		}
		checkMake(t, l)
	}
	if !slices.Equal(l[:cap(l)], memory) {
		t.Errorf("a list of %d was changed", len(l))
	}
}

// checkBytes: whatever bytes come, the calls answer what they should, the same
// each time.
func checkBytes(t *testing.T, s string, x api.Entry) {
	t.Helper()
	for range 2 {
		checkList(t, s)
		checkOne(t, s, x)
		checkSplit(t, s)
	}
}

var wildNumbers = []int{math.MinInt, math.MinInt + 1, -1 << 32, -1, 0, 1, 2, 3, 4, 10, 256, 257, 4097, 1 << 32, 1<<32 + 1, math.MaxInt - 1, math.MaxInt}

func TestCallsAnswerAnything(t *testing.T) {
	for _, kind := range wildNumbers {
		for _, n := range []int{0, 1, 4096, 4097, 1 << 16} {
			checkBlobs(t, []api.Blob{{Kind: kind, Bytes: odd(1, n)}, {Kind: kind, Bytes: odd(2, n)}})
		}
		for _, at := range wildNumbers {
			for _, size := range wildNumbers {
				x := api.Entry{Kind: kind, At: at, Len: size}
				checkBytes(t, "", x)
				checkBytes(t, "\x00abc", x)
				checkBytes(t, sealed("", "\x00"), x)
			}
		}
	}
	for _, count := range []int{0, 1, 39, 40, 41, 100, 1000} {
		checkBlobs(t, make([]api.Blob, count))
		checkBlobs(t, oddBlobs(0, 1000, 3)[:count])
	}
	for _, pair := range clashes(t) {
		checkBlobs(t, pair[:])
	}
	for seed := range 300 {
		checkBytes(t, odd(seed, seed), api.Entry{Kind: 1, Len: seed})
		checkBytes(t, summed(odd(seed, seed)), api.Entry{Kind: 1, Len: seed})
		checkBytes(t, sealed("", odd(seed, seed)), api.Entry{Kind: 1, Len: seed})
		checkBytes(t, sealed(odd(seed, seed), counted(uint64(seed%41), many(seed%41, uint64(seed%7))...)), api.Entry{Kind: 1, Len: seed})
	}
	for _, s := range []string{"\x00", "\x01", "\x02", "\xff"} {
		long := strings.Repeat(s, 1<<17)
		checkBytes(t, long, api.Entry{Kind: 1, Len: len(long)})
		checkBytes(t, summed(long), api.Entry{Kind: 2, Len: len(long)})
	}
}

func TestCallsKeepNothing(t *testing.T) {
	blobs := oddBlobs(1, 30, 40)
	s, _ := pack.Make(blobs)
	entries, _ := pack.List(s)
	split, _ := pack.Split(s)
	one, _ := pack.One(s, entries[7])
	keptPack, keptEntries := strings.Clone(s), slices.Clone(entries)
	for _, l := range someLists() {
		other, _ := pack.Make(l)
		pack.List(other)
		pack.Split(other)
	}
	for _, c := range unlisted {
		pack.Split(sealed(c.body, c.list))
	}
	pack.Make([]api.Blob{blobs[0], blobs[0]})
	if s != keptPack || !slices.Equal(entries, keptEntries) || !slices.Equal(split, blobs) || one != blobs[7] {
		t.Error("an answer was changed by what was asked behind it")
	}
	again, _ := pack.Make(blobs)
	entriesAgain, _ := pack.List(s)
	splitAgain, _ := pack.Split(s)
	if again != s || !slices.Equal(entriesAgain, entries) || !slices.Equal(splitAgain, blobs) {
		t.Error("what was asked in between is to be seen in the answer")
	}
}

// inMemory are texts in one memory that can be written to, with more behind each.
func inMemory(l []string) ([]string, []byte) {
	memory := []byte(strings.Join(l, "behind it") + "behind it")
	var texts []string
	at := 0
	for _, s := range l {
		texts = append(texts, unsafe.String(unsafe.SliceData(memory[at:]), len(s)))
		at += len(s) + len("behind it")
	}
	return texts, memory
}

// checkMemory: the memory of texts is not changed, and the answer's is another.
func checkMemory(t *testing.T, call func([]string) []string, l ...string) {
	t.Helper()
	texts, memory := inMemory(l)
	before := string(memory)
	got := call(texts)
	if string(memory) != before {
		t.Fatalf("the memory of %.20q was changed", l)
	}
	kept := strings.Join(append(got, ""), "|")
	for i := range memory {
		memory[i] ^= 255
	}
	if strings.Join(append(got, ""), "|") != kept {
		t.Errorf("what is answered to %.20q changes with its memory", l)
	}
}

func bytesOf(l []api.Blob) []string {
	var texts []string
	for _, b := range l {
		texts = append(texts, b.Bytes)
	}
	return texts
}

func askMake(texts []string) []string {
	var l []api.Blob
	for i, s := range texts {
		l = append(l, api.Blob{Kind: 1 + i%3, Bytes: s})
		pack.ID(l[i])
	}
	s, _ := pack.Make(l)
	clear(l)
	return []string{s}
}

func askSplit(texts []string) []string {
	l, _ := pack.Split(texts[0])
	got := bytesOf(l)
	entries, _ := pack.List(texts[0])
	for _, x := range entries {
		b, _ := pack.One(texts[0], x)
		got = append(got, b.Bytes)
	}
	return got
}

func TestTextsAreNotChangedAndNotKept(t *testing.T) {
	for _, l := range someLists() {
		checkMemory(t, askMake, bytesOf(l)...)
		s, _ := pack.Make(l)
		checkMemory(t, askSplit, s)
	}
	for _, c := range unlisted {
		checkMemory(t, askSplit, sealed(c.body, c.list))
	}
}

// spans are the places in memory of texts that are not empty.
func spans(l []string) [][2]uintptr {
	var all [][2]uintptr
	for _, s := range l {
		if s != "" {
			at := uintptr(unsafe.Pointer(unsafe.StringData(s)))
			all = append(all, [2]uintptr{at, at + uintptr(len(s))})
		}
	}
	slices.SortFunc(all, func(a, b [2]uintptr) int { return int(a[0]) - int(b[0]) })
	return all
}

func TestAnswersAreMemoryOfTheirOwn(t *testing.T) {
	for _, l := range someLists() {
		// What is handed in shares no memory here, not even with itself.
		l = slices.Clone(l)
		for i := range l {
			l[i].Bytes = strings.Clone(l[i].Bytes)
		}
		s, _ := pack.Make(l)
		all := append(bytesOf(l), s)
		for range 2 {
			again, _ := pack.Make(l)
			all = slices.Concat(all, []string{again}, askSplit([]string{again}))
		}
		at := spans(all)
		for i := 1; i < len(at); i++ {
			// Texts of one byte may all be the same constant ones.
			if at[i-1][1] > at[i][0] && at[i-1][1]-at[i-1][0] > 1 {
				t.Fatalf("%d blobs: two answers share memory", len(l))
			}
		}
	}
}

// checkOwnList: not even the spare memory of a list is another one's.
func checkOwnList[T comparable](t *testing.T, ask func() []T, other T) {
	t.Helper()
	first := ask()
	want := slices.Clone(first)
	second := ask()
	for i := range second[:cap(second)] {
		second[:cap(second)][i] = other
	}
	if third := ask(); !slices.Equal(first, want) || !slices.Equal(third, want) {
		t.Error("two answers share a list's memory")
	}
}

func TestListsAreMemoryOfTheirOwn(t *testing.T) {
	for _, l := range someLists() {
		s, _ := pack.Make(l)
		checkOwnList(t, func() []api.Entry { entries, _ := pack.List(s); return entries }, api.Entry{Kind: 9})
		checkOwnList(t, func() []api.Blob { blobs, _ := pack.Split(s); return blobs }, snap("other"))
	}
}

// A list that was changed is read anew.
func TestListsAreNotKept(t *testing.T) {
	l := oddBlobs(1, 12, 4)
	for i := range l {
		checkBlobs(t, l)
		l[i].Kind = 1 + (l[i].Kind+1)%4
		l[11-i].Bytes = odd(i/2+20, 4)
	}
}

// cutUp are blobs of which each has so many bytes of s as one byte tells.
func cutUp(s, sizes string) []api.Blob {
	var l []api.Blob
	for i := range len(sizes) {
		n := min(int(sizes[i]), len(s))
		l = append(l, api.Blob{Kind: int(sizes[i]) % 5, Bytes: s[:n]})
		s = s[n:]
	}
	return l
}

func FuzzBlobs(f *testing.F) {
	f.Add("some bytes that are cut into blobs", "\x01\x02\x03\x06\x07\x08")
	f.Add("", "\x01\x01\x01")
	f.Fuzz(func(t *testing.T, s, sizes string) {
		l := cutUp(s, sizes)
		checkBlobs(t, l)
		for i := range l {
			l[i].Kind = 1 + l[i].Kind%3
		}
		checkBlobs(t, l)
		made, err := pack.Make(l)
		if err != api.OK {
			return
		}
		if split, err := pack.Split(made); !slices.Equal(split, l) || err != api.OK {
			t.Errorf("%d blobs come back as %d, %v", len(l), len(split), err)
		}
	})
}

// Sums that fit leave more to be read than odd bytes do.
func FuzzPacks(f *testing.F) {
	for _, c := range unlisted {
		f.Add(c.body[:min(100, len(c.body))], c.list, 1, 0, 3)
	}
	for _, c := range made {
		s := byHex(f, c.want)
		body := 0
		entries, _ := slowList(s)
		for _, x := range entries {
			body += x.Len
		}
		f.Add(s[:body], s[body:len(s)-10], 2, 1, 9)
	}
	f.Fuzz(func(t *testing.T, body, list string, kind, at, size int) {
		x := api.Entry{Kind: kind, At: at, Len: size}
		checkBytes(t, body+list, x)
		checkBytes(t, summed(body+list), x)
		checkBytes(t, sealed(body, list), x)
		if l, err := pack.Split(sealed(body, list)); err == api.OK {
			checkMake(t, l)
		}
	})
}
