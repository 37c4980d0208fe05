package mix_test

import (
	"strings"
	"testing"
	"unsafe"

	"lumberroom/api"
	"lumberroom/mix"
)

// An answer is all that the calls tell of a text.
type answer struct {
	sum    uint64
	id     api.ID
	narrow [68]uint64
	err    [68]api.Errno
}

func ask(s string) answer {
	a := answer{sum: mix.Sum(s), id: mix.ID(s)}
	for i := range a.narrow {
		a.narrow[i], a.err[i] = mix.Narrow(i-1, s)
	}
	return a
}

// checkText: whatever s is, all calls answer, the same each time, and agree.
func checkText(t *testing.T, s string) {
	t.Helper()
	a := ask(s)
	if ask(s) != a {
		t.Errorf("%.40q was answered otherwise the second time", s)
	}
	var joined uint64
	for _, c := range a.id {
		joined = joined<<8 | uint64(c)
	}
	if joined != a.sum {
		t.Errorf("ID(%.40q) is %x, its Sum %x", s, a.id, a.sum)
	}
	for i, n := range a.narrow {
		w := i - 1
		if w < 1 || w > 64 {
			if n != 0 || a.err[i] != api.ErrArg {
				t.Errorf("Narrow(%d, %.40q) = %x, %v", w, s, n, a.err[i])
			}
		} else if a.err[i] != api.OK || w < 64 && n>>w != 0 || w == 64 && n != a.sum {
			t.Errorf("Narrow(%d, %.40q) = %x, %v", w, s, n, a.err[i])
		}
	}
}

func TestCallsAnswerAnyText(t *testing.T) {
	for c := range 256 {
		for _, n := range []int{0, 1, 7, 8, 9, 15, 16, 17, 100} {
			checkText(t, strings.Repeat(string([]byte{byte(c)}), n))
		}
	}
	checkText(t, strings.Repeat("a\x00\xff", 30000))
}

func TestCallsKeepNothing(t *testing.T) {
	first := ask("0123456789abcdefg")
	for _, c := range sums {
		ask(c.s)
	}
	mix.Undo(mix.Step(7, 9), 9)
	if ask("0123456789abcdefg") != first {
		t.Error("what was asked in between is to be seen in the answer")
	}
}

func TestTextIsNotChanged(t *testing.T) {
	for _, c := range sums {
		memory := []byte(c.s + "behind it")
		ask(unsafe.String(unsafe.SliceData(memory), len(c.s)))
		if string(memory) != c.s+"behind it" {
			t.Errorf("the memory of %.20q was changed", c.s)
		}
	}
}

// What lies behind a text in memory is not read into its last block.
func TestMemoryBehindTextIsNotRead(t *testing.T) {
	for n := range 20 {
		long := strings.Repeat("\xff", 40)
		if mix.Sum(long[:n]) != mix.Sum(strings.Repeat("\xff", n)) {
			t.Errorf("the Sum of %d bytes hangs on what lies behind them", n)
		}
	}
}

func FuzzTexts(f *testing.F) {
	for _, c := range sums {
		f.Add(c.s)
	}
	f.Fuzz(checkText)
}

func FuzzSteps(f *testing.F) {
	f.Add(uint64(7), uint64(9))
	f.Fuzz(func(t *testing.T, n, block uint64) {
		if mix.Undo(mix.Step(n, block), block) != n || mix.Step(mix.Undo(n, block), block) != n {
			t.Errorf("Step and Undo of %x with %x", n, block)
		}
	})
}
