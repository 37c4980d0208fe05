package field_test

import (
	"bytes"
	"math"
	"testing"

	"lumberroom/api"
	"lumberroom/field"
)

// longProduct takes the remainder bit by bit, from the highest one down.
func longProduct(a, b byte) byte {
	var bits [15]byte
	for i := range 8 {
		for j := range 8 {
			bits[i+j] ^= a >> i & 1 & (b >> j & 1)
		}
	}
	for i := 14; i >= 8; i-- {
		for _, low := range []int{4, 3, 2, 0} {
			bits[i-8+low] ^= bits[i]
		}
	}
	var n byte
	for i := range 8 {
		n |= bits[i] << i
	}
	return n
}

// longPower multiplies n times.
func longPower(a byte, n int) byte {
	p := byte(1)
	for range n {
		p = longProduct(p, a)
	}
	return p
}

func TestMul(t *testing.T) {
	for _, c := range []struct{ a, b, want byte }{
		{0, 0, 0},
		{0, 1, 0},
		{0, 0xff, 0},
		{1, 1, 1},
		{1, 0xff, 0xff},
		{2, 0x40, 0x80},
		{2, 0x80, 0x1d},
		{3, 3, 5},
		{0x10, 0x10, 0x1d},
		{0x1d, 2, 0x3a},
		{0x53, 0xca, 0x8f},
		{0x80, 0x80, 0x13},
		{0x8e, 2, 1},
		{0x8e, 0x8e, 0x47},
		{0xb7, 0x6e, 0xe1},
		{0xff, 0xff, 0xe2},
	} {
		if n := field.Mul(c.a, c.b); n != c.want {
			t.Errorf("Mul(%x, %x) = %x, want %x", c.a, c.b, n, c.want)
		}
		if n := field.Mul(c.b, c.a); n != c.want {
			t.Errorf("Mul(%x, %x) = %x, want %x", c.b, c.a, n, c.want)
		}
	}
}

func TestMulIsTheRemainderOfTheProduct(t *testing.T) {
	for a := range 256 {
		for b := range 256 {
			if n, want := field.Mul(byte(a), byte(b)), longProduct(byte(a), byte(b)); n != want {
				t.Errorf("Mul(%x, %x) = %x, want %x", a, b, n, want)
			}
		}
	}
}

func TestPow(t *testing.T) {
	for _, c := range []struct {
		a    byte
		n    int
		want byte
	}{
		{0, 0, 1},
		{0, 1, 0},
		{0, 2, 0},
		{0, 255, 0},
		{0, math.MaxInt, 0},
		{1, 0, 1},
		{1, math.MaxInt, 1},
		{2, 0, 1},
		{2, 1, 2},
		{2, 7, 0x80},
		{2, 8, 0x1d},
		{2, 254, 0x8e},
		{2, 255, 1},
		{2, 256, 2},
		{2, 1 << 32, 2},
		{2, 1 << 62, 0x5f},
		{2, math.MaxInt - 1, 0x66},
		{2, math.MaxInt, 0xcc},
		{3, 100, 0xa7},
		{3, math.MaxInt, 0x7c},
		{7, 1, 7},
		{7, math.MaxInt - 1, 0xf2},
		{0x53, 13, 0x85},
		{0xa7, 1 << 62, 0x7c},
		{0xff, 0, 1},
		{0xff, 254, 0xfd},
		{0xff, 255, 1},
		{0xff, math.MaxInt, 0x6a},
	} {
		if n, err := field.Pow(c.a, c.n); n != c.want || err != api.OK {
			t.Errorf("Pow(%x, %d) = %x, %v, want %x", c.a, c.n, n, err, c.want)
		}
	}
}

func TestPowMultipliesSoManyTimes(t *testing.T) {
	for a := range 256 {
		want := byte(1)
		for n := range 600 {
			if got, err := field.Pow(byte(a), n); got != want || err != api.OK {
				t.Errorf("Pow(%x, %d) = %x, %v, want %x", a, n, got, err, want)
			}
			want = longProduct(want, byte(a))
		}
	}
}

func TestPowRefuses(t *testing.T) {
	for a := range 256 {
		for _, n := range []int{-1, -2, -254, -255, -256, -1 << 32, math.MinInt + 1, math.MinInt} {
			if got, err := field.Pow(byte(a), n); got != 0 || err != api.ErrArg {
				t.Errorf("Pow(%x, %d) = %x, %v, want %v alone", a, n, got, err, api.ErrArg)
			}
		}
	}
}

func TestInv(t *testing.T) {
	for _, c := range []struct{ a, want byte }{
		{1, 1},
		{2, 0x8e},
		{3, 0xf4},
		{4, 0x47},
		{5, 0xa7},
		{0x10, 0xd8},
		{0x1d, 0x83},
		{0x80, 0x1b},
		{0x81, 0x54},
		{0x8f, 0xf5},
		{0xfe, 0x7e},
		{0xff, 0xfd},
	} {
		if n, err := field.Inv(c.a); n != c.want || err != api.OK {
			t.Errorf("Inv(%x) = %x, %v, want %x", c.a, n, err, c.want)
		}
	}
}

func TestInvTimesItsNumberIsOne(t *testing.T) {
	for a := 1; a < 256; a++ {
		n, err := field.Inv(byte(a))
		if longProduct(n, byte(a)) != 1 || err != api.OK {
			t.Errorf("Inv(%x) = %x, %v", a, n, err)
		}
	}
}

func TestInvRefuses(t *testing.T) {
	if n, err := field.Inv(0); n != 0 || err != api.ErrArg {
		t.Errorf("Inv(0) = %x, %v, want %v alone", n, err, api.ErrArg)
	}
}

// list has n bytes, each one b.
func list(b byte, n int) []byte {
	return bytes.Repeat([]byte{b}, n)
}

var dots = []struct {
	a, b []byte
	want byte
}{
	{nil, nil, 0},
	{nil, []byte{}, 0},
	{[]byte{0}, []byte{0xff}, 0},
	{[]byte{2}, []byte{0x80}, 0x1d},
	{[]byte{1, 2}, []byte{3, 4}, 0xb},
	{[]byte{0x80, 0x80}, []byte{2, 2}, 0},
	{[]byte{0x12, 0x34, 0x56}, []byte{0x9a, 0xbc, 0xde}, 0xa1},
	{list(0xff, 5), []byte{1, 2, 4, 8, 16}, 0x27},
	{list(1, 1001), list(0xff, 1001), 0xff},
	{append(list(0, 5000), 1), append(list(9, 5000), 7), 7},
}

func TestDot(t *testing.T) {
	for _, c := range dots {
		if n, err := field.Dot(c.a, c.b); n != c.want || err != api.OK {
			t.Errorf("Dot(%x, %x) = %x, %v, want %x", c.a, c.b, n, err, c.want)
		}
		if n, err := field.Dot(c.b, c.a); n != c.want || err != api.OK {
			t.Errorf("Dot(%x, %x) = %x, %v, want %x", c.b, c.a, n, err, c.want)
		}
	}
}

func TestDotRefuses(t *testing.T) {
	for n := range 20 {
		for m := range 20 {
			if n == m {
				continue
			}
			for _, b := range []byte{0, 1, 0xff} {
				// The spare memory of a shorter list does not lengthen it.
				if got, err := field.Dot(list(b, 20)[:n], list(b, 20)[:m]); got != 0 || err != api.ErrArg {
					t.Errorf("Dot of %d and %d bytes %x: %x, %v, want %v alone", n, m, b, got, err, api.ErrArg)
				}
			}
		}
	}
	if got, err := field.Dot(nil, list(7, 1<<16)); got != 0 || err != api.ErrArg {
		t.Errorf("Dot of none and many: %x, %v, want %v alone", got, err, api.ErrArg)
	}
}

var values = []struct {
	poly []byte
	x    byte
	want byte
}{
	{nil, 0, 0},
	{nil, 2, 0},
	{[]byte{}, 0xff, 0},
	{[]byte{7}, 0, 7},
	{[]byte{7}, 0xff, 7},
	{[]byte{0, 1}, 0x55, 0x55},
	{[]byte{5, 1}, 2, 7},
	{[]byte{9, 8, 7}, 0, 9},
	{[]byte{0, 8, 7}, 0, 0},
	{[]byte{9, 8, 7}, 1, 6},
	{[]byte{1, 2, 3}, 2, 9},
	{[]byte{0, 0, 0}, 5, 0},
	{[]byte{0, 0, 0, 1}, 0x80, 0x75},
	{[]byte{0xff, 0xfe, 0xfd, 0xfc, 0xfb}, 0x9c, 0xd1},
	{list(1, 255), 1, 1},
	{list(1, 255), 3, 0},
	{list(1, 256), 3, 1},
	{append(list(0, 300), 7), 2, 0x7d},
}

func TestAt(t *testing.T) {
	for _, c := range values {
		if n := field.At(c.poly, c.x); n != c.want {
			t.Errorf("At(%x, %x) = %x, want %x", c.poly, c.x, n, c.want)
		}
	}
}

// Each number of the list stands with its own power, whatever x is.
func TestAtIsTheSumOfItsParts(t *testing.T) {
	for x := range 256 {
		for _, k := range []int{0, 1, 2, 3, 7, 8, 254, 255, 256, 300} {
			poly := append(list(0, k), 0xa5)
			if n, want := field.At(poly, byte(x)), longProduct(0xa5, longPower(byte(x), k)); n != want {
				t.Errorf("a5 times %x to the power of %d: %x, want %x", x, k, n, want)
			}
		}
	}
}
