package press

import (
	"fmt"
	"strings"
	"testing"
)

// bitText is what w has written so far, as a text of bits.
func bitText(w *bitWriter) string {
	text := ""
	for _, c := range w.bytes {
		text += fmt.Sprintf("%08b", c)
	}
	return text
}

func TestBitsAreWrittenOneBehindTheOther(t *testing.T) {
	w := &bitWriter{}
	want := ""
	for count := range 49 {
		n := 0x5a5a5a5a5a5a & (1<<count - 1)
		w.put(n, count)
		if count > 0 {
			want += fmt.Sprintf("%0*b", count, n)
		}
		filled := want + strings.Repeat("0", (8-len(want)%8)%8)
		if got := bitText(w); got != filled {
			t.Fatalf("with %d bits of %x: %s, want %s", count, n, got, filled)
		}
	}
}

func TestBitsGoBehindBytesThatAreThere(t *testing.T) {
	w := &bitWriter{bytes: []byte("a")}
	w.put(0, 0)
	if string(w.bytes) != "a" {
		t.Errorf("no bits: %x", w.bytes)
	}
	w.put(3, 2)
	w.put(1, 7)
	if string(w.bytes) != "a\xc0\x80" {
		t.Errorf("%x", w.bytes)
	}
}

func TestBitsAreTakenUpToTheEnd(t *testing.T) {
	r := &bitReader{s: "\x80\x01a"}
	for i, want := range "100000000000000101100001" {
		if bit, there := r.take(); bit != int(want-'0') || !there {
			t.Errorf("bit %d: %d, %v", i, bit, there)
		}
	}
	for range 3 {
		if bit, there := r.take(); bit != 0 || there {
			t.Errorf("behind the end: %d, %v", bit, there)
		}
	}
}

func TestOnlyFillingIsLeft(t *testing.T) {
	for _, c := range []struct {
		s     string
		taken int
		want  bool
	}{
		{"", 0, true}, {"\x00", 0, false}, {"\x01", 0, false}, {"\x00\x00", 0, false},
		{"\x00", 1, true}, {"\x00", 7, true}, {"\x00", 8, true}, {"\xff", 8, true}, {"\x80", 1, true}, {"\xfe", 7, true},
		{"\x40", 1, false}, {"\x01", 1, false}, {"\x01", 7, false}, {"\xff", 7, false},
		{"\x00\x00", 7, false}, {"\x00\x00", 8, false}, {"\x00\x00", 9, true}, {"\xff\x80", 9, true}, {"\xff\x81", 9, false},
	} {
		r := &bitReader{s: c.s}
		for range c.taken {
			r.take()
		}
		if got := r.onlyFilling(); got != c.want {
			t.Errorf("%x, %d taken: %v", c.s, c.taken, got)
		}
	}
}
