// Package num: numbers and texts whose bytes keep their order: see doc/01-num.md.
package num

import (
	"math"
	"math/bits"

	"lumberroom/api"
)

const (
	maxDigits  = 8
	floatBytes = 8
	// The first byte of an int is belowHead - k for one below 0, fromHead + k
	// for all others: so those below 0 come first, the longest ahead.
	belowHead = 127
	fromHead  = 128
	signBit   = 1 << 63
	nanBits   = 0x7ff8000000000001
	// Behind a byte 0 of a text stands zeroGoesOn, behind the one that ends it
	// a 0: so a text comes ahead of those that it is a beginning of.
	zeroGoesOn = 255
	// Digits are turned by ^: of a number below 0 the digits must fall as it grows.
	plain  = 0
	turned = 255
)

// Put: P3.
func Put(n uint64) string {
	k := countDigits(n)
	return string(appendDigits([]byte{byte(k)}, n, k, plain))
}

// Get: P3.
func Get(s string) (uint64, int, api.Errno) {
	if len(s) == 0 {
		return 0, 0, api.ErrShort
	}
	k := int(s[0])
	n, err := readDigits(s[1:], k, plain)
	if err != api.OK {
		return 0, 0, err
	}
	return n, 1 + k, api.OK
}

// PutInt: P4.
func PutInt(n int) string {
	if n < 0 {
		// -1 - n, unlike -n, is there for the smallest int too.
		below := uint64(-1 - n)
		k := countDigits(below)
		return string(appendDigits([]byte{byte(belowHead - k)}, below, k, turned))
	}
	k := countDigits(uint64(n))
	return string(appendDigits([]byte{byte(fromHead + k)}, uint64(n), k, plain))
}

// GetInt: P4.
func GetInt(s string) (int, int, api.Errno) {
	if len(s) == 0 {
		return 0, 0, api.ErrShort
	}
	k, turn := readHead(s[0])
	n, err := readDigits(s[1:], k, turn)
	if err != api.OK {
		return 0, 0, err
	}
	if n > math.MaxInt64 {
		return 0, 0, api.ErrForm
	}
	if turn == turned {
		return -1 - int(n), 1 + k, api.OK
	}
	return int(n), 1 + k, api.OK
}

// PutFloat: P5.
func PutFloat(x float64) string {
	b := math.Float64bits(x)
	if math.IsNaN(x) {
		b = nanBits
	}
	if b&signBit == 0 {
		b |= signBit
	} else {
		b = ^b
	}
	return string(appendDigits(nil, b, floatBytes, plain))
}

// GetFloat: P5.
func GetFloat(s string) (float64, int, api.Errno) {
	if len(s) < floatBytes {
		return 0, 0, api.ErrShort
	}
	b := joinDigits(s[:floatBytes], plain)
	if b&signBit != 0 {
		b &^= signBit
	} else {
		b = ^b
	}
	x := math.Float64frombits(b)
	if math.IsNaN(x) && b != nanBits {
		return 0, 0, api.ErrForm
	}
	return x, floatBytes, api.OK
}

// PutText: P6.
func PutText(s string) (string, api.Errno) {
	if len(s) > api.MaxText {
		return "", api.ErrLarge
	}
	var out []byte
	for i := 0; i < len(s); i++ {
		out = append(out, s[i])
		if s[i] == 0 {
			out = append(out, zeroGoesOn)
		}
	}
	return string(append(out, 0, 0)), api.OK
}

// GetText: P6.
func GetText(s string) (string, int, api.Errno) {
	var out []byte
	for i := 0; i < len(s); i++ {
		c := s[i]
		if c == 0 {
			i++
			if i == len(s) {
				return "", 0, api.ErrShort
			}
			if s[i] == 0 {
				return string(out), i + 1, api.OK
			}
			if s[i] != zeroGoesOn {
				return "", 0, api.ErrForm
			}
		}
		if len(out) == api.MaxText {
			return "", 0, api.ErrLarge
		}
		out = append(out, c)
	}
	return "", 0, api.ErrShort
}

// countDigits tells how many digits by 256 n has; 0 has none.
func countDigits(n uint64) int {
	return (bits.Len64(n) + 7) / 8
}

// appendDigits puts the lowest k digits of n behind out, the highest first.
func appendDigits(out []byte, n uint64, k int, turn byte) []byte {
	for i := k - 1; i >= 0; i-- {
		out = append(out, byte(n>>(8*i))^turn)
	}
	return out
}

// joinDigits is the number whose digits are all of s.
func joinDigits(s string, turn byte) uint64 {
	var n uint64
	for i := 0; i < len(s); i++ {
		n = n<<8 | uint64(s[i]^turn)
	}
	return n
}

// readDigits reads the number whose k digits are at the front of s.
func readDigits(s string, k int, turn byte) (uint64, api.Errno) {
	if k > maxDigits {
		return 0, api.ErrForm
	}
	if len(s) < k {
		return 0, api.ErrShort
	}
	if k > 0 && s[0]^turn == 0 {
		return 0, api.ErrForm
	}
	return joinDigits(s[:k], turn), api.OK
}

// readHead tells how many digits an int with this first byte has, and how they
// are turned.
func readHead(head byte) (int, byte) {
	if head >= fromHead {
		return int(head) - fromHead, plain
	}
	return belowHead - int(head), turned
}
