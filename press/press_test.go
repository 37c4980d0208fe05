package press_test

import (
	"encoding/hex"
	"fmt"
	"hash/crc32"
	"strings"
	"testing"

	"lumberroom/api"
	"lumberroom/huff"
	"lumberroom/lz"
	"lumberroom/num"
	"lumberroom/press"
)

// odd makes n bytes that look like no text: the same ones for each seed.
func odd(seed, n int) string {
	b := make([]byte, n)
	for i := range b {
		seed = (seed*1103515245 + 12345) % (1 << 31)
		b[i] = byte(seed >> 16)
	}
	return string(b)
}

// few makes n bytes of k unlike ones, which leave much to make short.
func few(seed, n, k int) string {
	b := []byte(odd(seed, n))
	for i := range b {
		b[i] = 'a' + b[i]%byte(k)
	}
	return string(b)
}

func all256() string {
	b := make([]byte, 256)
	for i := range b {
		b[i] = byte(i)
	}
	return string(b)
}

// byHex is the text whose bytes are told by base 16, with blanks in between.
func byHex(t *testing.T, s string) string {
	t.Helper()
	b, err := hex.DecodeString(strings.ReplaceAll(s, " ", ""))
	if err != nil {
		t.Fatal(err)
	}
	return string(b)
}

// someTexts may all be pressed.
func someTexts() []string {
	return []string{
		"", "a", "\x00", "\x01", "\xff", "ab", "aaaa", "\x00abc", "\x01\x00\x00\x00", all256(), all256() + all256(),
		strings.Repeat(all256(), 16), strings.Repeat("a", 16), strings.Repeat("a", 17), strings.Repeat("a", 4095), strings.Repeat("a", 4096),
		strings.Repeat("ab", 2048), strings.Repeat("\x00", 4095), strings.Repeat("abcd", 200), strings.Repeat(odd(5, 1024), 4), strings.Repeat(odd(5, 1025), 3),
		odd(1, 4096), odd(2, 1000), few(1, 4096, 2), few(2, 4096, 3), few(3, 3000, 7), few(4, 4096, 26), few(7, 300, 2),
	}
}

// The first ones were worked out by hand, the longer ones by another program.
func TestPress(t *testing.T) {
	for _, c := range []struct{ s, want string }{
		{"", "00"},
		{"\x00", "00 00"},
		{"ab", "00 61 62"},
		{"\x01\x02", "00 01 02"},
		{strings.Repeat("a", 17), "01 0111 0105 0104 0002 0102 1002 6102 3900"},
		{strings.Repeat("a", 4096), "01 021000 0135 0105 0002 0102 0f03 6103 ff02 3c92492492492492492492492640"},
		{strings.Repeat("\x00", 4095), "01 020fff 0135 0104 0001 0102 0e03 ff03 3cf3cf3cf3cf3cf3cf3cf3cf34"},
		{strings.Repeat("abcd", 200), "01 020320 0114 0108 0001 0403 1f05 6105 6204 6304 6404 ff03 7d8d758b163d00"},
		{strings.Repeat("ab", 2048), "01 021000 0137 0106 0002 0202 0e04 6104 6203 ff02 3cd249249249249249249249249c80"},
	} {
		if s, err := press.Press(c.s); s != byHex(t, c.want) || err != api.OK {
			t.Errorf("Press(%.20q) = %x, %v, want %s", c.s, s, err, c.want)
		}
	}
}

// These were worked out by another program.
func TestPressOfLongTexts(t *testing.T) {
	for _, c := range []struct {
		s        string
		size     int
		checksum uint32
	}{
		{all256(), 257, 0x932ca9e5},
		{strings.Repeat(all256(), 16), 870, 0x58c95925},
		{strings.Repeat(odd(5, 1024), 4), 2140, 0x7f0cdf38},
		{strings.Repeat(odd(5, 1025), 3), 3076, 0x2983a50d},
		{odd(1, 4096), 4097, 0x3928767c},
		{few(1, 4096, 2), 1295, 0x67e9ba27},
		{few(2, 4096, 3), 1852, 0x8af5b7bb},
		{few(3, 3000, 7), 2267, 0xf05eae4e},
		{few(4, 4096, 26), 4097, 0xce3d410e},
		{few(7, 300, 2), 171, 0xf9131d27},
	} {
		s, err := press.Press(c.s)
		if len(s) != c.size || crc32.ChecksumIEEE([]byte(s)) != c.checksum || err != api.OK {
			t.Errorf("Press(%.20q): %d bytes, checksum %x, %v, want %d, %x", c.s, len(s), crc32.ChecksumIEEE([]byte(s)), err, c.size, c.checksum)
		}
	}
}

func TestPressRefusesTooManyBytes(t *testing.T) {
	for _, n := range []int{4097, 4098, 5000, 1 << 16, 1 << 20} {
		for _, s := range []string{strings.Repeat("a", n), odd(1, n), few(1, n, 2)} {
			if got, err := press.Press(s); got != "" || err != api.ErrLarge {
				t.Errorf("Press(%d bytes): %d bytes, %v, want %v alone", n, len(got), err, api.ErrLarge)
			}
		}
	}
	for _, n := range []int{4095, 4096} {
		for _, s := range []string{strings.Repeat("a", n), odd(1, n), few(1, n, 2)} {
			if _, err := press.Press(s); err != api.OK {
				t.Errorf("Press(%d bytes): %v", n, err)
			}
		}
	}
}

// slowCoded is the CODED form of s word by word, with codes as texts of bits.
func slowCoded(s string) string {
	l, _ := lz.Greedy(s)
	packed, _ := lz.Pack(l)
	counts := make([]int, 256)
	for c := range counts {
		counts[c] = strings.Count(packed, string([]byte{byte(c)}))
	}
	lengths, _ := huff.Lengths(counts)
	codes, _ := huff.Codes(lengths)
	pairs := ""
	var bits strings.Builder
	for c, n := range lengths {
		if counts[c] > 0 {
			pairs += string([]byte{byte(c), byte(n)})
		}
	}
	for i := range len(packed) {
		fmt.Fprintf(&bits, "%0*b", lengths[packed[i]], codes[packed[i]])
	}
	return coded(len(s), len(packed), pairs, bits.String())
}

// coded is a CODED form of any parts.
func coded(size, packed int, pairs, bits string) string {
	return "\x01" + num.Put(uint64(size)) + num.Put(uint64(packed)) + num.Put(uint64(len(pairs)/2)) + pairs + ofBits(bits)
}

// ofBits are the bytes of a text of bits, the last one filled up with 0.
func ofBits(bits string) string {
	var b []byte
	for ; len(bits) > 0; bits = bits[8:] {
		for len(bits) < 8 {
			bits += "0"
		}
		c := byte(0)
		for _, bit := range bits[:8] {
			c = 2*c + byte(bit-'0')
		}
		b = append(b, c)
	}
	return string(b)
}

// checkPress: Press answers as P21 has it, and Open what was pressed.
func checkPress(t *testing.T, s string) {
	t.Helper()
	want := "\x00" + s
	if c := slowCoded(s); len(c) < len(want) {
		want = c
	}
	got, err := press.Press(s)
	if got != want || err != api.OK {
		t.Errorf("Press(%.40q) = %.80x, %v, want %.80x", s, got, err, want)
	}
	if len(got) > len(s)+1 {
		t.Errorf("Press(%.40q) has %d bytes of %d", s, len(got), len(s))
	}
	checkOpens(t, got, s)
	checkOpens(t, slowCoded(s), s)
	checkOpens(t, "\x00"+s, s)
}

func checkOpens(t *testing.T, form, want string) {
	t.Helper()
	if got, err := press.Open(form); got != want || err != api.OK {
		t.Errorf("Open(%.80x) = %.40q, %v, want %.40q", form, got, err, want)
	}
}

func TestPressWordByWord(t *testing.T) {
	for _, s := range someTexts() {
		checkPress(t, s)
	}
	for n := range 60 {
		checkPress(t, strings.Repeat("a", n))
		checkPress(t, strings.Repeat("\x00", n))
		checkPress(t, few(n, n, 2))
		checkPress(t, few(1, 7*n, 4))
		checkPress(t, strings.Repeat(odd(n, 9), n))
	}
	for c := range 256 {
		checkPress(t, string([]byte{byte(c)}))
		checkPress(t, strings.Repeat(string([]byte{byte(c)}), 1+c*16))
	}
}

// Of 16 letters both forms have 17 bytes; 15 are longer coded, 17 longer plain.
func TestPressIsPlainWhereFormsAreOfOneLength(t *testing.T) {
	ties := 0
	for _, s := range []string{"aaaaaaaaaaaaaaaa", "\xff\xff\xff\xff\xff\xff\xff\xff\xff\xff\xff\xff\xff\xff\xff\xff"} {
		if len(slowCoded(s)) != len(s)+1 {
			t.Fatalf("the forms of %q are of unlike lengths", s)
		}
	}
	for n := range 300 {
		for seed := range 8 {
			s := few(seed, n, 2)
			got, err := press.Press(s)
			if len(slowCoded(s)) == len(s)+1 {
				ties++
				if got != "\x00"+s || err != api.OK {
					t.Errorf("Press(%q) = %x, %v, want it plain", s, got, err)
				}
			}
		}
	}
	for _, n := range []int{15, 16, 17} {
		got, err := press.Press(strings.Repeat("a", n))
		if err != api.OK || (got[0] == 0) != (n < 17) || len(got) != min(n+1, 17) {
			t.Errorf("Press(%d letters) = %x, %v", n, got, err)
		}
	}
	if ties == 0 {
		t.Error("no text has forms of one length")
	}
}
