package roll_test

import (
	"strings"
	"testing"
	"unsafe"

	"lumberroom/api"
	"lumberroom/roll"
)

// checkText: whatever s is, the sum that rolls over it is Of of what was pushed
// so far, at each byte, and the last bytes stand in the window in their turn.
func checkText(t *testing.T, s string) {
	t.Helper()
	var r api.Roll
	var win [16]byte
	for i := range len(s) {
		var err api.Errno
		r, err = roll.Push(r, s[i])
		win[i%16] = s[i]
		want := api.Roll{Win: win, At: (i + 1) % 16, Sum: roll.Of(s[:i+1])}
		if r != want || err != api.OK {
			t.Fatalf("%.40q, pushed up to its byte %d: %x, %v, want %x", s, i, r, err, want)
		}
	}
	if n := roll.Of(s); n>>31 != 0 || n != r.Sum || roll.Of(s) != n {
		t.Errorf("Of(%.40q) = %x, pushed %x", s, n, r.Sum)
	}
}

// checkPush: whatever r is, Push answers, the same each time, and a Roll that
// can be gone on with or none.
func checkPush(t *testing.T, r api.Roll, b byte) {
	t.Helper()
	before := r
	got, err := roll.Push(r, b)
	if r != before {
		t.Errorf("Push changed %x to %x", before, r)
	}
	if again, e := roll.Push(r, b); again != got || e != err {
		t.Errorf("Push(%x, %x) was answered otherwise the second time", r, b)
	}
	if r.At < 0 || r.At > 15 || r.Sum >= 1<<31 {
		if got != (api.Roll{}) || err != api.ErrArg {
			t.Errorf("Push(%x, %x) = %x, %v", r, b, got, err)
		}
		return
	}
	r.Win[r.At] = b
	if err != api.OK || got.Win != r.Win || got.At != (r.At+1)%16 || got.Sum>>31 != 0 {
		t.Errorf("Push(%x, %x) = %x, %v", before, b, got, err)
	}
}

func checkTimes(t *testing.T, a, b uint32) {
	t.Helper()
	n := roll.Times(a, b)
	if n != longProduct(a, b) || roll.Times(a, b) != n {
		t.Errorf("Times(%x, %x) = %x, want %x", a, b, n, longProduct(a, b))
	}
}

func TestCallsAnswerAnything(t *testing.T) {
	for c := range 256 {
		for _, n := range []int{0, 1, 4, 5, 15, 16, 17, 31, 32, 33} {
			checkText(t, strings.Repeat(string([]byte{byte(c)}), n))
		}
	}
	for _, c := range sums {
		checkText(t, c.s)
	}
	checkText(t, strings.Repeat("a\x00\xff\x80 all of it \x01", 2000))
	for at := -20; at < 40; at++ {
		for _, n := range words() {
			checkPush(t, api.Roll{Win: [16]byte{0: 1, 7: byte(n), 15: 0xff}, At: at, Sum: n}, byte(at))
		}
	}
}

func TestCallsKeepNothing(t *testing.T) {
	r := api.Roll{Win: [16]byte{3: 7}, At: 3, Sum: 0x1234567}
	first, _ := roll.Push(r, 9)
	sum, product := roll.Of("0123456789"), roll.Times(7, 9)
	for _, c := range sums {
		roll.Of(c.s)
		roll.Push(first, byte(c.want))
		roll.Push(api.Roll{At: 16}, 1)
		roll.Times(c.want, c.want)
	}
	if again, _ := roll.Push(r, 9); again != first || roll.Of("0123456789") != sum || roll.Times(7, 9) != product {
		t.Error("what was asked in between is to be seen in the answer")
	}
}

func TestTextIsNotChanged(t *testing.T) {
	for _, c := range sums {
		memory := []byte(c.s + "behind it")
		n := roll.Of(unsafe.String(unsafe.SliceData(memory), len(c.s)))
		if string(memory) != c.s+"behind it" {
			t.Errorf("the memory of %q was changed", c.s)
		}
		if n != c.want {
			t.Errorf("the sum of %q hangs on what lies behind it", c.s)
		}
	}
}

func FuzzTexts(f *testing.F) {
	for _, c := range sums {
		f.Add(c.s)
	}
	f.Fuzz(checkText)
}

func FuzzPushes(f *testing.F) {
	f.Add([]byte("0123456789abcdef"), 15, uint32(1<<30), byte(7))
	f.Fuzz(func(t *testing.T, win []byte, at int, sum uint32, b byte) {
		r := api.Roll{At: at, Sum: sum}
		copy(r.Win[:], win)
		checkPush(t, r, b)
		checkTimes(t, sum, uint32(at))
	})
}
