package keep_test

import (
	"math"
	"testing"

	"lumberroom/api"
	"lumberroom/keep"
)

// fields are the five numbers of a policy.
func fields(p *api.Policy) [5]*int {
	return [5]*int{&p.Last, &p.Days, &p.Weeks, &p.Months, &p.Years}
}

func policyOf(n [5]int) api.Policy {
	return api.Policy{Last: n[0], Days: n[1], Weeks: n[2], Months: n[3], Years: n[4]}
}

var noNumbers = []int{
	-1, 101, -2, 102, -100, -101, 200, 256, 256 + 50, -256 + 50, 1<<16 + 1, 1 << 31, -1 << 31, 1 << 32, 1<<32 + 100, -1<<32 + 1,
	math.MaxInt, math.MaxInt - 1, math.MinInt, math.MinInt + 1,
}

func TestCheck(t *testing.T) {
	for _, n := range [][5]int{
		{}, {100, 100, 100, 100, 100}, {1, 2, 3, 4, 5}, {99, 0, 100, 1, 50},
		{100, 0, 0, 0, 0}, {0, 100, 0, 0, 0}, {0, 0, 100, 0, 0}, {0, 0, 0, 100, 0}, {0, 0, 0, 0, 100},
	} {
		if err := keep.Check(policyOf(n)); err != api.OK {
			t.Errorf("Check of %v = %v", n, err)
		}
	}
}

func TestCheckOfWrongNumbers(t *testing.T) {
	for _, rest := range []int{0, 1, 7, 100} {
		for at := range 5 {
			for _, n := range noNumbers {
				p := policyOf([5]int{rest, rest, rest, rest, rest})
				*fields(&p)[at] = n
				if err := keep.Check(p); err != api.ErrArg {
					t.Errorf("Check of %v = %v, want ErrArg", p, err)
				}
			}
		}
	}
	for _, n := range noNumbers {
		if err := keep.Check(policyOf([5]int{n, n, n, n, n})); err != api.ErrArg {
			t.Errorf("Check of five times %d = %v, want ErrArg", n, err)
		}
	}
}

func TestCheckOfAllNumbers(t *testing.T) {
	for at := range 5 {
		for n := -300; n <= 300; n++ {
			var p api.Policy
			*fields(&p)[at] = n
			checkCheck(t, p)
		}
	}
}
