package num_test

import (
	"math"
	"slices"
	"strings"
	"testing"

	"lumberroom/api"
	"lumberroom/num"
)

// wholeNumbers are those at which the count of bits or of digits changes, in order.
func wholeNumbers() []uint64 {
	l := []uint64{0, 300, math.MaxUint64}
	for i := range 64 {
		p := uint64(1) << i
		l = append(l, p-1, p, p+1)
	}
	slices.Sort(l)
	return slices.Compact(l)
}

func ints() []int {
	var l []int
	for _, n := range wholeNumbers() {
		if n <= math.MaxInt64 {
			l = append(l, int(n), -1-int(n))
		}
	}
	slices.Sort(l)
	return l
}

// floats are in order, NaN last.
func floats() []float64 {
	up := []float64{
		0, math.SmallestNonzeroFloat64, 2 * math.SmallestNonzeroFloat64,
		math.Float64frombits(0x000fffffffffffff), math.Float64frombits(0x0010000000000000),
		0.1, 1, math.Nextafter(1, 2), 1.5, 255, 256, math.MaxFloat64, math.Inf(1),
	}
	var l []float64
	for _, x := range slices.Backward(up) {
		l = append(l, math.Copysign(x, -1))
	}
	return append(append(l, up...), math.NaN())
}

// texts are in order.
func texts() []string {
	l := []string{
		"", "\x00", "\x00\x00", "\x00\x00\x00", "\x00\x01", "\x00\xff", "\x00\xff\x00", "\x00a",
		"\x01", "\x01\x00", "a", "a\x00", "a\x00\x00", "a\x00\xff", "a\x00b", "a\x01", "ab", "b",
		"\xc3\xa9", "\xfe", "\xff", "\xff\x00", "\xff\x00\x00", "\xff\xff",
		strings.Repeat("a", api.MaxText), strings.Repeat("\x00", api.MaxText), strings.Repeat("\xff", api.MaxText),
	}
	slices.Sort(l)
	return l
}

// putText is PutText of a text that is not too long.
func putText(t *testing.T, s string) string {
	t.Helper()
	out, err := num.PutText(s)
	if err != api.OK {
		t.Fatalf("PutText(%.20q): %v", s, err)
	}
	return out
}

// checkOrder: what was put in order is in order, and none is a beginning of another.
func checkOrder(t *testing.T, l []string) {
	t.Helper()
	for i, a := range l {
		for _, b := range l[i+1:] {
			if a >= b {
				t.Errorf("%.20q is not ahead of %.20q", a, b)
			}
			if strings.HasPrefix(b, a) {
				t.Errorf("%.20q is a beginning of %.20q", a, b)
			}
		}
	}
}

// tails may stand behind what a Get reads, and must change nothing.
var tails = []string{"", "x", "\x00", "\xff", "\x00\x00", "\xff\x00\x01\x02\x03\x04\x05\x06\x07\x08"}

func TestPut(t *testing.T) {
	for _, c := range []struct {
		n    uint64
		want string
	}{
		{0, "\x00"},
		{1, "\x01\x01"},
		{255, "\x01\xff"},
		{256, "\x02\x01\x00"},
		{300, "\x02\x01\x2c"},
		{65535, "\x02\xff\xff"},
		{65536, "\x03\x01\x00\x00"},
		{1<<56 - 1, "\x07\xff\xff\xff\xff\xff\xff\xff"},
		{1 << 56, "\x08\x01\x00\x00\x00\x00\x00\x00\x00"},
		{0x0123456789abcdef, "\x08\x01\x23\x45\x67\x89\xab\xcd\xef"},
		{math.MaxUint64, "\x08\xff\xff\xff\xff\xff\xff\xff\xff"},
	} {
		if s := num.Put(c.n); s != c.want {
			t.Errorf("Put(%d) = %q, want %q", c.n, s, c.want)
		}
	}
}

func TestGetReadsWhatPutWrote(t *testing.T) {
	for _, n := range wholeNumbers() {
		s := num.Put(n)
		for _, tail := range tails {
			if m, k, err := num.Get(s + tail); m != n || k != len(s) || err != api.OK {
				t.Errorf("Get(%q) = %d, %d, %v", s+tail, m, k, err)
			}
		}
	}
}

func TestGetRefuses(t *testing.T) {
	for _, c := range []struct {
		s    string
		want api.Errno
	}{
		{"", api.ErrShort},
		{"\x01", api.ErrShort},
		{"\x02\x01", api.ErrShort},
		{"\x02\x00", api.ErrShort}, // that digits lack is told ahead of a nought
		{"\x08\x01\x02\x03\x04\x05\x06\x07", api.ErrShort},
		{"\x09", api.ErrForm}, // and too many digits ahead of digits that lack
		{"\x09\x01\x02\x03\x04\x05\x06\x07\x08\x09", api.ErrForm},
		{"\x80", api.ErrForm},
		{"\xff", api.ErrForm},
		{"\x01\x00", api.ErrForm},
		{"\x02\x00\x01", api.ErrForm},
		{"\x08\x00\xff\xff\xff\xff\xff\xff\xff", api.ErrForm},
	} {
		if n, k, err := num.Get(c.s); n != 0 || k != 0 || err != c.want {
			t.Errorf("Get(%q) = %d, %d, %v, want 0, 0, %v", c.s, n, k, err, c.want)
		}
	}
}

func TestPutKeepsOrder(t *testing.T) {
	var l []string
	for _, n := range wholeNumbers() {
		l = append(l, num.Put(n))
	}
	checkOrder(t, l)
}

func TestPutInt(t *testing.T) {
	for _, c := range []struct {
		n    int
		want string
	}{
		{0, "\x80"},
		{1, "\x81\x01"},
		{255, "\x81\xff"},
		{256, "\x82\x01\x00"},
		{300, "\x82\x01\x2c"},
		{math.MaxInt, "\x88\x7f\xff\xff\xff\xff\xff\xff\xff"},
		{-1, "\x7f"},
		{-2, "\x7e\xfe"},
		{-256, "\x7e\x00"},
		{-257, "\x7d\xfe\xff"},
		{-301, "\x7d\xfe\xd3"},
		{math.MinInt, "\x77\x80\x00\x00\x00\x00\x00\x00\x00"},
	} {
		if s := num.PutInt(c.n); s != c.want {
			t.Errorf("PutInt(%d) = %q, want %q", c.n, s, c.want)
		}
	}
}

func TestGetIntReadsWhatPutIntWrote(t *testing.T) {
	for _, n := range ints() {
		s := num.PutInt(n)
		for _, tail := range tails {
			if m, k, err := num.GetInt(s + tail); m != n || k != len(s) || err != api.OK {
				t.Errorf("GetInt(%q) = %d, %d, %v", s+tail, m, k, err)
			}
		}
	}
}

func TestGetIntRefuses(t *testing.T) {
	for _, c := range []struct {
		s    string
		want api.Errno
	}{
		{"", api.ErrShort},
		{"\x89", api.ErrForm},
		{"\xff\x01\x02\x03\x04\x05\x06\x07\x08\x09", api.ErrForm},
		{"\x76", api.ErrForm},
		{"\x00", api.ErrForm},
		{"\x76\x01\x02\x03\x04\x05\x06\x07\x08\x09", api.ErrForm},
		{"\x81", api.ErrShort},
		{"\x82\x00", api.ErrShort},
		{"\x88\xff\xff\xff\xff\xff\xff\xff", api.ErrShort},
		{"\x7e", api.ErrShort},
		{"\x7d\xff", api.ErrShort},
		{"\x77\x00\x00\x00\x00\x00\x00\x00", api.ErrShort},
		{"\x81\x00", api.ErrForm},
		{"\x82\x00\xff", api.ErrForm},
		{"\x7e\xff", api.ErrForm},
		{"\x7d\xff\x00", api.ErrForm},
		{"\x88\x80\x00\x00\x00\x00\x00\x00\x00", api.ErrForm},
		{"\x88\xff\xff\xff\xff\xff\xff\xff\xff", api.ErrForm},
		{"\x77\x7f\xff\xff\xff\xff\xff\xff\xff", api.ErrForm},
		{"\x77\x00\x00\x00\x00\x00\x00\x00\x00", api.ErrForm},
	} {
		if n, k, err := num.GetInt(c.s); n != 0 || k != 0 || err != c.want {
			t.Errorf("GetInt(%q) = %d, %d, %v, want 0, 0, %v", c.s, n, k, err, c.want)
		}
	}
}

func TestPutIntKeepsOrder(t *testing.T) {
	var l []string
	for _, n := range ints() {
		l = append(l, num.PutInt(n))
	}
	checkOrder(t, l)
}

func TestPutFloat(t *testing.T) {
	nan := "\xff\xf8\x00\x00\x00\x00\x00\x01"
	for _, c := range []struct {
		bits uint64
		want string
	}{
		{0, "\x80\x00\x00\x00\x00\x00\x00\x00"},
		{1 << 63, "\x7f\xff\xff\xff\xff\xff\xff\xff"},
		{1, "\x80\x00\x00\x00\x00\x00\x00\x01"},
		{1<<63 | 1, "\x7f\xff\xff\xff\xff\xff\xff\xfe"},
		{0x3ff0000000000000, "\xbf\xf0\x00\x00\x00\x00\x00\x00"},
		{0xbff0000000000000, "\x40\x0f\xff\xff\xff\xff\xff\xff"},
		{0x400921fb54442d18, "\xc0\x09\x21\xfb\x54\x44\x2d\x18"},
		{0x7ff0000000000000, "\xff\xf0\x00\x00\x00\x00\x00\x00"},
		{0xfff0000000000000, "\x00\x0f\xff\xff\xff\xff\xff\xff"},
		{0x7ff8000000000001, nan},
		{0x7ff8000000000000, nan},
		{0x7ff0000000000001, nan},
		{0x7fffffffffffffff, nan},
		{0xfff8000000000001, nan},
		{0xffffffffffffffff, nan},
	} {
		if s := num.PutFloat(math.Float64frombits(c.bits)); s != c.want {
			t.Errorf("PutFloat of the bits %x = %q, want %q", c.bits, s, c.want)
		}
	}
}

func TestGetFloatReadsWhatPutFloatWrote(t *testing.T) {
	for _, x := range floats() {
		s := num.PutFloat(x)
		for _, tail := range tails {
			y, k, err := num.GetFloat(s + tail)
			if math.Float64bits(y) != math.Float64bits(x) || k != 8 || err != api.OK {
				t.Errorf("GetFloat(%q) = %v, %d, %v, want %v", s+tail, y, k, err, x)
			}
		}
	}
}

func TestGetFloatRefuses(t *testing.T) {
	for _, c := range []struct {
		s    string
		want api.Errno
	}{
		{"", api.ErrShort},
		{"\x80", api.ErrShort},
		{"\x80\x00\x00\x00\x00\x00\x00", api.ErrShort},
		{"\xff\xff\xff\xff\xff\xff\xff", api.ErrShort},
		{"\xff\xf8\x00\x00\x00\x00\x00\x00", api.ErrForm},
		{"\xff\xf8\x00\x00\x00\x00\x00\x02", api.ErrForm},
		{"\xff\xf0\x00\x00\x00\x00\x00\x01", api.ErrForm},
		{"\xff\xff\xff\xff\xff\xff\xff\xff", api.ErrForm},
		{"\xff\xff\xff\xff\xff\xff\xff\xffx", api.ErrForm},
		{"\x00\x07\xff\xff\xff\xff\xff\xfe", api.ErrForm}, // the one NaN with its sign's bit set
		{"\x00\x0f\xff\xff\xff\xff\xff\xfe", api.ErrForm},
		{"\x00\x00\x00\x00\x00\x00\x00\x00", api.ErrForm},
	} {
		x, k, err := num.GetFloat(c.s)
		if math.Float64bits(x) != 0 || k != 0 || err != c.want {
			t.Errorf("GetFloat(%q) = %v, %d, %v, want 0, 0, %v", c.s, x, k, err, c.want)
		}
	}
}

func TestPutFloatKeepsOrder(t *testing.T) {
	var l []string
	for _, x := range floats() {
		l = append(l, num.PutFloat(x))
	}
	checkOrder(t, l)
}

func TestPutText(t *testing.T) {
	for _, c := range []struct{ s, want string }{
		{"", "\x00\x00"},
		{"a", "a\x00\x00"},
		{"\x00", "\x00\xff\x00\x00"},
		{"a\x00", "a\x00\xff\x00\x00"},
		{"\x00\x00b", "\x00\xff\x00\xffb\x00\x00"},
		{"\x00\xff", "\x00\xff\xff\x00\x00"},
		{"\xff\x80", "\xff\x80\x00\x00"},
		{strings.Repeat("a", 1024), strings.Repeat("a", 1024) + "\x00\x00"},
		{strings.Repeat("\x00", 1024), strings.Repeat("\x00\xff", 1024) + "\x00\x00"},
	} {
		if s, err := num.PutText(c.s); s != c.want || err != api.OK {
			t.Errorf("PutText(%.20q) = %.40q, %v", c.s, s, err)
		}
	}
}

func TestPutTextRefuses(t *testing.T) {
	for _, n := range []int{1025, 1026, 100000} {
		for _, c := range []string{"a", "\x00", "\xff"} {
			if s, err := num.PutText(strings.Repeat(c, n)); s != "" || err != api.ErrLarge {
				t.Errorf("PutText of %d times %q = %.20q, %v", n, c, s, err)
			}
		}
	}
}

func TestGetTextReadsWhatPutTextWrote(t *testing.T) {
	for _, s := range texts() {
		put := putText(t, s)
		for _, tail := range tails {
			if got, k, err := num.GetText(put + tail); got != s || k != len(put) || err != api.OK {
				t.Errorf("GetText(%.20q) = %.20q, %d, %v", put+tail, got, k, err)
			}
		}
	}
}

func TestGetTextRefuses(t *testing.T) {
	full := strings.Repeat("a", api.MaxText)
	noughts := strings.Repeat("\x00\xff", api.MaxText)
	for _, c := range []struct {
		s    string
		want api.Errno
	}{
		{"", api.ErrShort},
		{"a", api.ErrShort},
		{"\x00", api.ErrShort},
		{"a\x00", api.ErrShort},
		{"\x00\xff", api.ErrShort},
		{"\x00\xff\x00", api.ErrShort},
		{full, api.ErrShort},
		{full + "\x00", api.ErrShort}, // the byte 0 is none of the text's yet
		{noughts, api.ErrShort},
		{noughts + "\x00", api.ErrShort},
		{"\x00\x01", api.ErrForm},
		{"\x00\xfe", api.ErrForm},
		{"a\x00a\x00\x00", api.ErrForm},
		{"\x00\xff\x00\x01", api.ErrForm},
		{full + "\x00\x01", api.ErrForm},
		{"\x00\x01" + full + "a", api.ErrForm},
		{full + "a", api.ErrLarge},
		{full + "\xff", api.ErrLarge},
		{full + "\x00\xff", api.ErrLarge},
		{full + "a\x00\x00", api.ErrLarge},
		{full + "a\x00\x01", api.ErrLarge},
		{full + "\x00\xff\x00\x01", api.ErrLarge},
		{noughts + "a", api.ErrLarge},
		{noughts + "\x00\xff", api.ErrLarge},
	} {
		if s, k, err := num.GetText(c.s); s != "" || k != 0 || err != c.want {
			t.Errorf("GetText of %d bytes that end in %q = %.20q, %d, %v, want %v",
				len(c.s), c.s[max(0, len(c.s)-8):], s, k, err, c.want)
		}
	}
}

func TestPutTextKeepsOrder(t *testing.T) {
	var l []string
	for _, s := range texts() {
		l = append(l, putText(t, s))
	}
	checkOrder(t, l)
}
