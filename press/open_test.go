package press_test

import (
	"fmt"
	"strings"
	"testing"

	"lumberroom/api"
	"lumberroom/huff"
	"lumberroom/lz"
	"lumberroom/num"
	"lumberroom/press"
)

// every8 are all bytes with codes of eight bits: the codes are the bytes.
func every8() string {
	pairs := ""
	for c := range 256 {
		pairs += string([]byte{byte(c), 8})
	}
	return pairs
}

// bitsOf is s as a text of bits.
func bitsOf(s string) string {
	var bits strings.Builder
	for i := range len(s) {
		fmt.Fprintf(&bits, "%08b", s[i])
	}
	return bits.String()
}

// asItIs is a CODED form whose packed tokens stand there as they are.
func asItIs(size int, packed string) string {
	return coded(size, len(packed), every8(), "") + packed
}

// opened are forms that Press does not make but Open takes, beside those it does.
var opened = []struct{ form, want string }{
	{"\x00", ""},
	{"\x00a", "a"},
	{"\x00\x00", "\x00"},
	{"\x00\x01\x00\x00\x00", "\x01\x00\x00\x00"},
	{"\x00" + odd(1, 4095), odd(1, 4095)},
	{"\x00" + strings.Repeat("a", 4096), strings.Repeat("a", 4096)},
	{"\x01\x00\x00\x00", ""},
	{"\x01\x01\x01\x01\x02\x01\x01\x00\x01\x00", "\x00"},
	{coded(1, 2, "\x00\x01a\x01", "01"), "a"},
	{coded(0, 0, "\x00\x01", ""), ""},
	{coded(0, 0, every8(), ""), ""},
	{coded(1, 2, "\x00\x01a\x02", "010"), "a"},
	{coded(1, 2, "\x00\x02a\x01", "100"), "a"},
	{coded(1, 2, "\x00\x02a\x02", "0001"), "a"},
	{coded(1, 2, "\x00\x03a\x02b\x02c\x02", "11001"), "b"},
	{coded(1, 2, "\x00\x30a\x30", strings.Repeat("0", 95)+"1"), "a"},
	{coded(1, 2, "\x00\x01a\x30", "01"+strings.Repeat("0", 47)), "a"},
	{coded(1, 2, "\x00\x01\xff\x01", "01"), "\xff"},
	{coded(4, 5, "\x00\x02\x01\x02\x03\x02a\x02", "0011100100"), "aaaa"},
	{asItIs(4, "\x00a\x00a\x00a\x00a"), "aaaa"},
	{asItIs(4, "\x00a\x01\x01\x00\x02\x02\x00"), "aaaa"},
	{asItIs(4096, "\x00a"+strings.Repeat("\x01\x01\x00", 4095)), strings.Repeat("a", 4096)},
	{asItIs(4096, strings.Repeat("\x00a", 4096)), strings.Repeat("a", 4096)},
	{asItIs(512, "\x00a"+"\xff\x01\x00\xff\x00\x01\x01\x00\x01"), strings.Repeat("a", 512)},
}

func TestOpen(t *testing.T) {
	for _, c := range opened {
		checkOpens(t, c.form, c.want)
	}
}

type refusal struct {
	form string
	want api.Errno
}

var large = strings.Repeat("\x00a", 4097)

// refused are forms with one thing wrong, in the order in which they are told.
var refused = []refusal{
	{"", api.ErrShort},
	{"\x00" + strings.Repeat("a", 4097), api.ErrLarge},
	{"\x00" + odd(1, 9000), api.ErrLarge},
	{"\x02", api.ErrKind},
	{"\x02\x00\x00\x00", api.ErrKind},
	{"\xff" + odd(1, 9000), api.ErrKind},

	{"\x01", api.ErrShort},
	{"\x01\x02\x10", api.ErrShort},
	{"\x01\x08\x01\x02\x03\x04\x05\x06\x07", api.ErrShort},
	{"\x01\x09", api.ErrForm},
	{"\x01\xff", api.ErrForm},
	{"\x01\x01\x00\x00\x00", api.ErrForm},
	{"\x01\x02\x10\x01\x00\x00", api.ErrLarge},
	{"\x01\x08\xff\xff\xff\xff\xff\xff\xff\xff\x00\x00", api.ErrLarge},
	{"\x01\x05\x01\x00\x00\x00\x00\x00\x00", api.ErrLarge},
	{"\x01\x00", api.ErrShort},
	{"\x01\x00\x02\x10", api.ErrShort},
	{"\x01\x00\x09", api.ErrForm},
	{"\x01\x00\x02\x00\x01\x00", api.ErrForm},
	{"\x01\x00\x02\x30\x01\x00", api.ErrLarge},
	{"\x01\x00\x08\x80\x00\x00\x00\x00\x00\x00\x00\x00", api.ErrLarge},
	{"\x01\x00\x00", api.ErrShort},
	{"\x01\x00\x00\x02\x01", api.ErrShort},
	{"\x01\x00\x00\x0a", api.ErrForm},
	{"\x01\x00\x00\x01\x00", api.ErrForm},
	{"\x01\x00\x00\x02\x01\x01" + every8(), api.ErrLarge},
	{"\x01\x00\x00\x08\xff\x00\x00\x00\x00\x00\x00\x00", api.ErrLarge},

	{"\x01\x00\x00\x01\x01", api.ErrShort},
	{"\x01\x00\x00\x01\x01a", api.ErrShort},
	{"\x01\x00\x00\x01\x02a\x02", api.ErrShort},
	{"\x01\x00\x00\x01\x02a\x02b", api.ErrShort},
	{"\x01\x00\x00\x02\x01\x00" + every8()[:510], api.ErrShort},
	{"\x01\x00\x00\x02\x01\x00" + every8()[:511], api.ErrShort},
	{coded(0, 0, "a\x02a\x02", ""), api.ErrForm},
	{coded(0, 0, "b\x02a\x02", ""), api.ErrForm},
	{coded(0, 0, "\x00\x02\x00\x02", ""), api.ErrForm},
	{coded(0, 0, "\xff\x02\x00\x02", ""), api.ErrForm},
	{coded(0, 0, "a\x02c\x02b\x02", ""), api.ErrForm},
	{coded(0, 0, "a\x00", ""), api.ErrForm},
	{coded(0, 0, "a\x31", ""), api.ErrForm},
	{coded(0, 0, "a\x01b\xff", ""), api.ErrForm},

	{coded(0, 0, "a\x01b\x01c\x01", ""), api.ErrForm},
	{coded(0, 0, "a\x01b\x01c\x30", ""), api.ErrForm},
	{coded(0, 0, strings.ReplaceAll(every8(), "\x08", "\x07")[:2*100]+"\xf0\x01", ""), api.ErrForm},

	{coded(1, 2, "\x00\x01a\x01", ""), api.ErrShort},
	{coded(1, 9, "\x00\x01a\x01", "01010101"), api.ErrShort},
	{coded(1, 2, "\x00\x05a\x05", "0000000000"[:8]), api.ErrShort},
	{coded(1, 2, "\x00\x01a\x30", "01"+strings.Repeat("0", 46)), api.ErrShort},

	{coded(1, 2, "\x00\x01a\x01", "01000001"), api.ErrForm},
	{coded(1, 2, "\x00\x01a\x01", "01100000"), api.ErrForm},
	{coded(1, 2, "\x00\x01a\x01", "01000000"+"00000000"), api.ErrForm},
	{coded(1, 2, "\x00\x01a\x01", "01000000"+"00000001"), api.ErrForm},
	{asItIs(1, "\x00a") + "\x00", api.ErrForm},
	{asItIs(1, "\x00a") + "a", api.ErrForm},
	{"\x01\x00\x00\x00\x00", api.ErrForm},
	{"\x01\x00\x00\x00\x01", api.ErrForm},
	{coded(0, 0, "a\x01", "0"), api.ErrForm},

	{asItIs(1, "\x00"), api.ErrShort},
	{asItIs(4, "\x00a\x03"), api.ErrShort},
	{asItIs(4, "\x00a\x03\x01"), api.ErrShort},
	{asItIs(4, "\x00a\x03\x00\x00"), api.ErrForm},
	{asItIs(4, "\x00a\x03\x01\x04"), api.ErrForm},
	{asItIs(4096, large), api.ErrLarge},

	{asItIs(1, "\x01\x01\x00"), api.ErrForm},
	{asItIs(4, "\x00a\x03\x02\x00"), api.ErrForm},
	{asItIs(4096, strings.Repeat("\x01\x01\x00", 4096)), api.ErrForm},
	{asItIs(3, "\x00a\x03\x01\x00"), api.ErrLarge},
	{asItIs(0, "\x00a"), api.ErrLarge},
	{asItIs(4096, "\x00a"+strings.Repeat("\xff\x01\x00", 17)), api.ErrLarge},

	{asItIs(5, "\x00a\x03\x01\x00"), api.ErrForm},
	{asItIs(4096, "\x00a"), api.ErrForm},
	{"\x01\x01\x01\x00\x00", api.ErrForm},
}

func checkRefuses(t *testing.T, form string, want api.Errno) {
	t.Helper()
	if got, err := press.Open(form); got != "" || err != want {
		t.Errorf("Open(%.80x) = %.20q, %v, want %v alone", form, got, err, want)
	}
}

func TestOpenRefuses(t *testing.T) {
	for _, c := range refused {
		checkRefuses(t, c.form, c.want)
	}
	for kind := 2; kind < 256; kind++ {
		checkRefuses(t, string([]byte{byte(kind)}), api.ErrKind)
		checkRefuses(t, string([]byte{byte(kind)})+odd(kind, 5000), api.ErrKind)
	}
}

// Of two things that are wrong the one that stands first is told.
func TestOpenTellsTheFirstError(t *testing.T) {
	for _, c := range []refusal{
		{"\x01\x02\x10\x01", api.ErrLarge},                                   // and no second number
		{"\x01\x02\x10\x01\x09", api.ErrLarge},                               // and a wrong second number
		{"\x01\x09\x02\x30\x01", api.ErrForm},                                // and a large second number
		{"\x01\x00\x02\x30\x01\x09", api.ErrLarge},                           // and a wrong third number
		{"\x01\x00\x02\x30\x01", api.ErrLarge},                               // and no third number
		{"\x01\x00\x00\x02\x01\x01", api.ErrLarge},                           // and no bytes with lengths
		{"\x01\x02\x10\x01\x02\x30\x01\x09", api.ErrLarge},                   // and two others
		{"\x01\x00\x00\x01\x02b\x02a", api.ErrShort},                         // and the byte is not above
		{"\x01\x00\x00\x01\x03b\x02a\x02", api.ErrForm},                      // and one is not there
		{"\x01\x00\x00\x01\x02b\x00", api.ErrForm},                           // and one is not there
		{"\x01\x00\x00\x01\x04a\x01b\x01c\x01", api.ErrShort},                // and too many codes
		{coded(1, 2, "a\x01b\x01c\x01", ""), api.ErrForm},                    // and no bits
		{asItIs(1, "\x03\x00\x00")[:1+2+2+3+512+2], api.ErrShort},            // and a wrong Dist
		{coded(1, 1, "\x00\x01a\x01", "0001"), api.ErrForm},                  // and a token that is not all there
		{coded(1, 1, "\x00\x01a\x01", "0") + "\x00", api.ErrForm},            // and a token that is not all there
		{asItIs(0, "\x00a\x00"), api.ErrShort},                               // and more bytes than there may be
		{asItIs(0, "\x00a\x01\x00\x00"), api.ErrForm},                        // and more bytes than there may be
		{asItIs(9, "\x01\x01\x00\x01"), api.ErrShort},                        // and a copy of nothing
		{asItIs(9, large), api.ErrLarge},                                     // and more bytes than the first number
		{asItIs(9, "\x00a\x01\x02\x00"), api.ErrForm},                        // and too few bytes
		{coded(4097, 12289, strings.Repeat("a\x00", 300), ""), api.ErrLarge}, // and all that follows
	} {
		checkRefuses(t, c.form, c.want)
	}
}

// 48 bits that are no code are told as soon as another bit would be needed,
// whether it is there or not.
func TestOpenOf48BitsThatAreNoCode(t *testing.T) {
	ones := strings.Repeat("1", 200)
	for _, pairs := range []string{"", "a\x01", "a\x02b\x02", "a\x02b\x03", "a\x30", "\x00\x01\x01\x02\x02\x30"} {
		for n := 0; n <= len(ones); n += 8 {
			want := api.ErrShort
			if n >= 48 {
				want = api.ErrForm
			}
			checkRefuses(t, coded(1, 1, pairs, ones[:n]), want)
		}
	}
	// Behind a sign of one bit there are 47 bits, then 55.
	checkRefuses(t, coded(1, 2, "a\x01", "0"+ones[:47]), api.ErrShort)
	checkRefuses(t, coded(1, 2, "a\x01", "0"+ones[:55]), api.ErrForm)
	// Behind eight of them there are just 48.
	checkRefuses(t, coded(1, 9, "a\x01", "00000000"+ones[:40]), api.ErrShort)
	checkRefuses(t, coded(1, 9, "a\x01", "00000000"+ones[:48]), api.ErrForm)
	// The 48th bit makes a code, or it does not.
	long := "\x00\x01a\x02b\x30c\x30"
	code := "11" + strings.Repeat("0", 46)
	checkOpens(t, coded(1, 2, long, "0"+code), "b")
	checkOpens(t, coded(1, 2, long, "0"+code[:47]+"1"), "c")
	checkRefuses(t, coded(1, 2, long, "0"+code[:46]+"10"), api.ErrForm)
}

// slowOpen reads P22 word by word, with codes as texts of bits.
func slowOpen(s string) (string, api.Errno) {
	if s == "" {
		return "", api.ErrShort
	}
	if s[0] == 0 && len(s) > 4097 {
		return "", api.ErrLarge
	}
	if s[0] == 0 {
		return s[1:], api.OK
	}
	if s[0] != 1 {
		return "", api.ErrKind
	}
	s = s[1:]
	var numbers []int
	for _, most := range []uint64{4096, 12288, 256} {
		n, k, err := num.Get(s)
		if err != api.OK {
			return "", err
		}
		if n > most {
			return "", api.ErrLarge
		}
		numbers, s = append(numbers, int(n)), s[k:]
	}
	signs, s, err := slowSigns(s, numbers[2])
	if err != api.OK {
		return "", err
	}
	packed, err := slowCodes(s, signs, numbers[1])
	if err != api.OK {
		return "", err
	}
	l, err := lz.Read(packed)
	if err != api.OK {
		return "", err
	}
	made, err := lz.Expand(l, numbers[0])
	if err == api.OK && len(made) != numbers[0] {
		return "", api.ErrForm
	}
	return made, err
}

// slowSigns has the signs by their codes, and what is left.
func slowSigns(s string, count int) (map[string]byte, string, api.Errno) {
	lengths := make([]int, 256)
	for i := range count {
		if len(s) < 2*i+2 {
			return nil, "", api.ErrShort
		}
		if i > 0 && s[2*i] <= s[2*i-2] || s[2*i+1] == 0 || s[2*i+1] > 48 {
			return nil, "", api.ErrForm
		}
		lengths[s[2*i]] = int(s[2*i+1])
	}
	codes, err := huff.Codes(lengths)
	if err != api.OK {
		return nil, "", err
	}
	signs := map[string]byte{}
	for sign, n := range lengths {
		if n > 0 {
			signs[fmt.Sprintf("%0*b", n, codes[sign])] = byte(sign)
		}
	}
	return signs, s[2*count:], api.OK
}

func slowCodes(s string, signs map[string]byte, count int) (string, api.Errno) {
	bits := bitsOf(s)
	var packed []byte
	at, begin := 0, 0
	for len(packed) < count {
		if sign, ok := signs[bits[begin:at]]; ok {
			packed = append(packed, sign)
			begin = at
			continue
		}
		if at-begin == 48 {
			return "", api.ErrForm
		}
		if at == len(bits) {
			return "", api.ErrShort
		}
		at++
	}
	if left := bits[at:]; len(left) > 7 || strings.Contains(left, "1") {
		return "", api.ErrForm
	}
	return string(packed), api.OK
}

func checkOpen(t *testing.T, s string) {
	t.Helper()
	want, wantErr := slowOpen(s)
	if got, err := press.Open(s); got != want || err != wantErr {
		t.Errorf("Open(%.80x) = %.20q, %v, want %.20q, %v", s, got, err, want, wantErr)
	}
}

// changed are texts that differ from s in one byte, end early, or go on: all
// places of a short s, some of a long one.
func changed(s string) []string {
	var all []string
	for i := 0; i < len(s); i += max(1, len(s)/25) {
		all = append(all, s[:i], s[:i]+s[i+1:], s[:i]+"\x00"+s[i:])
		for _, c := range []byte{0, 1, 2, 48, 49, 255, s[i] + 1, s[i] - 1, s[i] ^ 128} {
			all = append(all, s[:i]+string([]byte{c})+s[i+1:])
		}
	}
	return append(all, s+"\x00", s+"\x01", s+"\xff")
}

func TestOpenWordByWord(t *testing.T) {
	for _, c := range opened {
		checkOpen(t, c.form)
		for _, s := range changed(c.form) {
			checkOpen(t, s)
		}
	}
	for _, c := range refused {
		checkOpen(t, c.form)
		for _, s := range changed(c.form) {
			checkOpen(t, s)
		}
	}
	for _, s := range someTexts() {
		form := slowCoded(s)
		for _, s := range changed(form) {
			checkOpen(t, s)
		}
	}
}

// eachText tells all texts of up to n of these bytes, with head ahead of them.
func eachText(head, of string, n int, tell func(string)) {
	tell(head)
	if n == 0 {
		return
	}
	for i := range len(of) {
		eachText(head+of[i:i+1], of, n-1, tell)
	}
}

func TestOpenOfAllShortTexts(t *testing.T) {
	eachText("", "\x00\x01\x02\x80", 7, func(s string) { checkOpen(t, s) })
	eachText("\x01\x01\x01\x01\x02", "\x00\x01\x02\x40", 7, func(s string) { checkOpen(t, s) })
}
