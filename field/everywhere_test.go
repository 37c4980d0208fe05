package field_test

import (
	"bytes"
	"math"
	"slices"
	"testing"

	"lumberroom/api"
	"lumberroom/field"
)

// odd has n bytes that show no order.
func odd(seed, n int) []byte {
	l := make([]byte, n)
	x := uint32(seed)*2654435761 + 1
	for i := range l {
		x = x*1664525 + 1013904223
		l[i] = byte(x >> 24)
	}
	return l
}

func slowDot(a, b []byte) (byte, api.Errno) {
	if len(a) != len(b) {
		return 0, api.ErrArg
	}
	var sum byte
	for i, x := range a {
		sum ^= longProduct(x, b[i])
	}
	return sum, api.OK
}

func slowAt(poly []byte, x byte) byte {
	var sum byte
	power := byte(1)
	for _, c := range poly {
		sum ^= longProduct(c, power)
		power = longProduct(power, x)
	}
	return sum
}

// checkLists: whatever the lists are, the calls answer what they should, the
// same each time, and leave the lists and their spare memory as they were.
func checkLists(t *testing.T, a, b []byte, x byte) {
	t.Helper()
	memoryA, memoryB := slices.Clone(a[:cap(a)]), slices.Clone(b[:cap(b)])
	want, wantErr := slowDot(a, b)
	value := slowAt(a, x)
	for range 2 {
		if n, err := field.Dot(a, b); n != want || err != wantErr {
			t.Errorf("Dot(%.40x, %.40x) = %x, %v, want %x, %v", a, b, n, err, want, wantErr)
		}
		if n := field.At(a, x); n != value {
			t.Errorf("At(%.40x, %x) = %x, want %x", a, x, n, value)
		}
	}
	if !bytes.Equal(a[:cap(a)], memoryA) || !bytes.Equal(b[:cap(b)], memoryB) {
		t.Errorf("a list was changed: %.40x, %.40x", memoryA, memoryB)
	}
}

// checkNumbers: whatever the numbers are, the calls answer what they should,
// the same each time. All powers of a number but 0 come again after 255.
func checkNumbers(t *testing.T, a, b byte, n int) {
	t.Helper()
	power, powErr, inverse, invErr := byte(0), api.ErrArg, byte(0), api.ErrArg
	if n >= 0 {
		powErr = api.OK
		if a != 0 || n == 0 {
			power = longPower(a, n%255)
		}
	}
	if a != 0 {
		inverse, invErr = longPower(a, 254), api.OK
	}
	for range 2 {
		if p := field.Mul(a, b); p != longProduct(a, b) {
			t.Errorf("Mul(%x, %x) = %x", a, b, p)
		}
		if p, err := field.Pow(a, n); p != power || err != powErr {
			t.Errorf("Pow(%x, %d) = %x, %v, want %x, %v", a, n, p, err, power, powErr)
		}
		if p, err := field.Inv(a); p != inverse || err != invErr {
			t.Errorf("Inv(%x) = %x, %v, want %x, %v", a, p, err, inverse, invErr)
		}
	}
}

func TestCallsAnswerAnything(t *testing.T) {
	for a := range 256 {
		for i := range 64 {
			checkNumbers(t, byte(a), byte(i), 1<<i)
			checkNumbers(t, byte(a), byte(i), 1<<i-1)
			checkNumbers(t, byte(a), byte(i), -1<<i)
		}
		checkNumbers(t, byte(a), byte(a), math.MaxInt)
		checkNumbers(t, byte(a), byte(a), math.MinInt)
	}
	for seed := range 300 {
		n := seed % 60
		checkLists(t, odd(seed, n), odd(seed+1, n), byte(seed))
		checkLists(t, odd(seed, 70)[:n], odd(seed+1, 90)[:n], byte(seed))
		checkLists(t, odd(seed, n), odd(seed, seed%61), byte(seed))
	}
	long := odd(7, 1<<16)
	checkLists(t, long, odd(8, 1<<16), 3)
	checkLists(t, long, long, 0xff)
	checkLists(t, long, long[1:], 0)
	checkLists(t, long, nil, 1)
	checkLists(t, nil, long, 2)
	checkLists(t, nil, nil, 3)
}

func TestCallsKeepNothing(t *testing.T) {
	a, b := odd(1, 40), odd(2, 40)
	dot, _ := field.Dot(a, b)
	value, product := field.At(a, 9), field.Mul(7, 9)
	power, _ := field.Pow(7, 9)
	inverse, _ := field.Inv(7)
	for _, c := range dots {
		field.Dot(c.a, c.b)
		field.Dot(c.a, a)
	}
	for _, c := range values {
		field.At(c.poly, c.x)
		field.Pow(c.x, -1)
		field.Pow(c.x, 99)
		field.Inv(c.x)
		field.Mul(c.x, c.want)
	}
	dotAgain, _ := field.Dot(a, b)
	powerAgain, _ := field.Pow(7, 9)
	inverseAgain, _ := field.Inv(7)
	if dotAgain != dot || field.At(a, 9) != value || field.Mul(7, 9) != product ||
		powerAgain != power || inverseAgain != inverse {
		t.Error("what was asked in between is to be seen in the answer")
	}
}

// A list that was changed is read anew.
func TestListsAreNotKept(t *testing.T) {
	a, b := odd(3, 20), odd(4, 20)
	for i := range a {
		checkLists(t, a, b, 5)
		a[i]++
		b[19-i] ^= 0x80
	}
}

func FuzzLists(f *testing.F) {
	for _, c := range dots {
		f.Add(c.a, c.b, c.want)
	}
	for _, c := range values {
		f.Add(c.poly, c.poly, c.x)
	}
	f.Fuzz(checkLists)
}

func FuzzNumbers(f *testing.F) {
	f.Add(byte(2), byte(128), math.MaxInt)
	f.Fuzz(checkNumbers)
}
