package num_test

import (
	"math"
	"strings"
	"testing"
	"unsafe"

	"lumberroom/api"
	"lumberroom/num"
)

// A reader is one Get, followed by its Put: what was read is told as the bytes
// that the Put makes of it, so that all four can be tried alike.
type reader struct {
	name string
	read func(s string) (again string, zero bool, k int, err api.Errno)
}

func readers() []reader {
	return []reader{
		{"Get", func(s string) (string, bool, int, api.Errno) {
			n, k, err := num.Get(s)
			return num.Put(n), n == 0, k, err
		}},
		{"GetInt", func(s string) (string, bool, int, api.Errno) {
			n, k, err := num.GetInt(s)
			return num.PutInt(n), n == 0, k, err
		}},
		{"GetFloat", func(s string) (string, bool, int, api.Errno) {
			x, k, err := num.GetFloat(s)
			return num.PutFloat(x), math.Float64bits(x) == 0, k, err
		}},
		{"GetText", func(s string) (string, bool, int, api.Errno) {
			text, k, err := num.GetText(s)
			again, _ := num.PutText(text)
			return again, text == "", k, err
		}},
	}
}

// checkReader: whatever s is, the Get answers; what it takes has one form, what
// it refuses comes with zero values, and it answers the same a second time.
func checkReader(t *testing.T, r reader, s string) {
	t.Helper()
	again, zero, k, err := r.read(s)
	if err == api.OK && (k < 0 || k > len(s) || s[:k] != again) {
		t.Errorf("%s(%.40q) took %d bytes, which are put as %.40q", r.name, s, k, again)
	}
	if err != api.OK && (!zero || k != 0) {
		t.Errorf("%s(%.40q) told more beside the error %v", r.name, s, err)
	}
	again2, zero2, k2, err2 := r.read(s)
	if again2 != again || zero2 != zero || k2 != k || err2 != err {
		t.Errorf("%s(%.40q) answered otherwise the second time", r.name, s)
	}
}

func TestGetsAnswerAnyShortText(t *testing.T) {
	for _, r := range readers() {
		checkReader(t, r, "")
		for a := range 256 {
			checkReader(t, r, string([]byte{byte(a)}))
			for b := range 256 {
				checkReader(t, r, string([]byte{byte(a), byte(b)}))
				checkReader(t, r, string([]byte{byte(a), byte(b), 0}))
				checkReader(t, r, string([]byte{byte(a), byte(b), 7, 0, 255, 0, 0, 1, 2, 3}))
			}
		}
	}
}

// samples are answers of all the Puts.
func samples(t *testing.T) []string {
	var l []string
	for _, n := range wholeNumbers() {
		l = append(l, num.Put(n))
	}
	for _, n := range ints() {
		l = append(l, num.PutInt(n))
	}
	for _, x := range floats() {
		l = append(l, num.PutFloat(x))
	}
	for _, s := range texts() {
		if len(s) < 10 {
			l = append(l, putText(t, s))
		}
	}
	return l
}

func TestGetsAnswerWhatWasSpoilt(t *testing.T) {
	for _, s := range samples(t) {
		for _, r := range readers() {
			for i := range len(s) {
				checkReader(t, r, s[:i])
				for _, c := range []byte{0, 1, 8, 9, 118, 119, 127, 128, 136, 137, 254, 255} {
					spoilt := []byte(s)
					spoilt[i] = c
					checkReader(t, r, string(spoilt))
				}
			}
		}
	}
}

func TestGetsAnswerLongTexts(t *testing.T) {
	for _, r := range readers() {
		for a := range 256 {
			checkReader(t, r, strings.Repeat(string([]byte{byte(a)}), 5000))
			checkReader(t, r, strings.Repeat(string([]byte{0, byte(a)}), 2500))
		}
	}
}

func FuzzGets(f *testing.F) {
	f.Add("\x02\x01\x2c")
	f.Add("\x7e\xfe")
	f.Add("\xff\xf8\x00\x00\x00\x00\x00\x01")
	f.Add("a\x00\xff\x00\x00b")
	f.Fuzz(func(t *testing.T, s string) {
		for _, r := range readers() {
			checkReader(t, r, s)
		}
	})
}

// share tells whether two texts have a byte of memory in common.
func share(a, b string) bool {
	if a == "" || b == "" {
		return false
	}
	a0 := uintptr(unsafe.Pointer(unsafe.StringData(a)))
	b0 := uintptr(unsafe.Pointer(unsafe.StringData(b)))
	return a0 < b0+uintptr(len(b)) && b0 < a0+uintptr(len(a))
}

func TestTextsAreNewMemory(t *testing.T) {
	for _, s := range []string{"ab", "abcdefgh", "a\x00b", strings.Repeat("a", api.MaxText)} {
		put := putText(t, s)
		if share(put, s) {
			t.Errorf("PutText(%.20q) shares memory with it", s)
		}
		got, _, _ := num.GetText(put)
		if share(got, put) {
			t.Errorf("GetText(%.20q) shares memory with it", put)
		}
	}
}
