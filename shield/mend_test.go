package shield_test

import (
	"math"
	"math/bits"
	"slices"
	"testing"

	"lumberroom/api"
	"lumberroom/shield"
)

// shardsOf are parts and their guards, all of them there.
func shardsOf(parts []string, p int) []api.Shard {
	var l []api.Shard
	for _, s := range slices.Concat(parts, slowGuards(parts, p)) {
		l = append(l, api.Shard{Has: true, Bytes: s})
	}
	return l
}

// without loses those shards whose bits are set. What is left where they were
// is not to be looked at, whatever it is.
func without(l []api.Shard, lost uint32) []api.Shard {
	left := slices.Clone(l)
	for k := range left {
		if lost>>k&1 == 1 {
			left[k].Has = false
			left[k].Bytes = []string{"", "wrong", left[k].Bytes, odd(k, 4097)}[k%4]
		}
	}
	return left
}

// slowError is the error that Mend is to tell.
func slowError(l []api.Shard, n int) api.Errno {
	if n < 1 || n > 16 || len(l) < n+1 || len(l) > n+8 {
		return api.ErrArg
	}
	size, there := -1, 0
	for _, s := range l {
		if !s.Has {
			continue
		}
		there++
		if size < 0 {
			size = len(s.Bytes)
		}
		if len(s.Bytes) > 4096 {
			return api.ErrLarge
		}
		if len(s.Bytes) != size {
			return api.ErrForm
		}
	}
	if there < n {
		return api.ErrLost
	}
	return api.OK
}

// slowShard is shard k of parts.
func slowShard(parts []string, k int) string {
	if k < len(parts) {
		return parts[k]
	}
	return slowGuard(parts, k-len(parts))
}

// checkMend: whatever is handed in, Mend answers parts that have the first n
// shards that are there, or the right error, and Check agrees.
func checkMend(t *testing.T, l []api.Shard, n int) {
	t.Helper()
	want := slowError(l, n)
	parts, err := shield.Mend(l, n)
	if err != want {
		t.Fatalf("Mend of %d shards, %d parts: %v, want %v", len(l), n, err, want)
	}
	if want != api.OK {
		if sum := shield.Check(l, n); parts != nil || sum != want {
			t.Errorf("%d shards, %d parts: Mend tells %d parts beside %v, Check %v", len(l), n, len(parts), want, sum)
		}
		return
	}
	if len(parts) != n {
		t.Fatalf("Mend of %d shards: %d parts, want %d", len(l), len(parts), n)
	}
	count := 0
	for k, s := range l {
		if !s.Has {
			continue
		}
		count++
		if slowShard(parts, k) == s.Bytes {
			continue
		}
		if count <= n {
			t.Fatalf("Mend of %d shards, %d parts: shard %d is not that of what was made", len(l), n, k)
		}
		want = api.ErrSum
	}
	if sum := shield.Check(l, n); sum != want {
		t.Errorf("Check of %d shards, %d parts: %v, want %v", len(l), n, sum, want)
	}
}

// checkLoss: of l, the shards of parts, those that are lost are made again, if
// enough are left.
func checkLoss(t *testing.T, l []api.Shard, parts []string, lost uint32) {
	t.Helper()
	left := without(l, lost)
	n, want := len(parts), api.OK
	if bits.OnesCount32(lost) > len(l)-n {
		parts, want = nil, api.ErrLost
	}
	if got, err := shield.Mend(left, n); !slices.Equal(got, parts) || err != want {
		t.Fatalf("Mend of %d parts, %d guards, without %b: %x, %v, want %x, %v", n, len(l)-n, lost, got, err, parts, want)
	}
	if err := shield.Check(left, n); err != want {
		t.Fatalf("Check of %d parts, %d guards, without %b: %v, want %v", n, len(l)-n, lost, err, want)
	}
}

// someLosses are all of them where shards are few; else some, most of which
// leave just enough.
func someLosses(n, p int) []uint32 {
	var all []uint32
	if n+p <= 11 {
		for lost := range uint32(1) << (n + p) {
			all = append(all, lost)
		}
		return all
	}
	for k := range n + 1 {
		all = append(all, (1<<p-1)<<k, (1<<(p-1)-1)<<k, (1<<(p+1)-1)<<k&(1<<(n+p)-1))
	}
	for seed := range 60 {
		lost := uint32(0)
		for _, c := range []byte(odd(seed, 500)) {
			if bits.OnesCount32(lost) < p {
				lost |= 1 << (int(c) % (n + p))
			}
		}
		all = append(all, lost, lost&(lost-1))
	}
	return all
}

func TestAnyShardsAreEnough(t *testing.T) {
	for n := 1; n <= api.MaxParts; n++ {
		for p := 1; p <= api.MaxGuards; p++ {
			parts := oddParts(n*p, n, 3)
			l := shardsOf(parts, p)
			for _, lost := range someLosses(n, p) {
				checkLoss(t, l, parts, lost)
			}
		}
	}
}

func TestLongAndEmptyPartsAreMended(t *testing.T) {
	for _, size := range []int{0, 1, 4095, api.MaxFile} {
		for _, n := range []int{1, 2, 16} {
			for _, p := range []int{1, 8} {
				parts := oddParts(size, n, size)
				l := shardsOf(parts, p)
				checkLoss(t, l, parts, 0)
				checkLoss(t, l, parts, 1)
				checkLoss(t, l, parts, (1<<p-1)<<n)
				checkLoss(t, l, parts, 1<<min(n, p)-1)
				checkLoss(t, l, parts, 1<<(p+1)-1)
			}
		}
	}
}

func TestGuardsAreMended(t *testing.T) {
	for _, c := range guarded {
		n, p := len(c.parts), len(c.guards)
		l := shardsOf(c.parts, p)
		for j, guard := range c.guards {
			l[n+j].Bytes = guard
		}
		for _, lost := range someLosses(n, p) {
			checkLoss(t, l, c.parts, lost)
		}
	}
}

func there(s string) api.Shard { return api.Shard{Has: true, Bytes: s} }

func gone(s string) api.Shard { return api.Shard{Bytes: s} }

var mended = []struct {
	l     []api.Shard
	parts []string
	sum   api.Errno
}{
	{[]api.Shard{there("\x01"), there("\x1b")}, []string{"\x01"}, api.OK},
	{[]api.Shard{there("\x01"), there("\x1c")}, []string{"\x01"}, api.ErrSum},
	{[]api.Shard{there("\x00"), there("\x01")}, []string{"\x00"}, api.ErrSum},
	{[]api.Shard{gone("\x02"), there("\x1b")}, []string{"\x01"}, api.OK},
	{[]api.Shard{gone(""), there("\x1b"), there("\x54")}, []string{"\x01"}, api.OK},
	{[]api.Shard{gone(""), there("\x1b"), there("\x55")}, []string{"\x01"}, api.ErrSum},
	{[]api.Shard{gone(""), gone("\x1b"), there("\x54")}, []string{"\x01"}, api.OK},
	{[]api.Shard{there(""), there("")}, []string{""}, api.OK},
	{[]api.Shard{gone("a"), there("")}, []string{""}, api.OK},
	{[]api.Shard{gone("abc"), there("def"), gone(""), there("\x9f\xc7\x81"), there("\xc0\x9c\xf8")}, []string{"abc", "def", "ghi"}, api.OK},
	{[]api.Shard{there("abc"), there("def"), there("ghi"), gone(""), gone("")}, []string{"abc", "def", "ghi"}, api.OK},
	{[]api.Shard{there("abc"), there("def"), there("ghj"), there("\x9f\xc7\x81"), gone("")}, []string{"abc", "def", "ghj"}, api.ErrSum},
	{[]api.Shard{there("abc"), there("def"), there("ghi"), gone(""), there("\xc0\x9c\xf9")}, []string{"abc", "def", "ghi"}, api.ErrSum},
	{[]api.Shard{there("abc"), there("def"), gone("ghi"), there("\x9f\xc7\x81"), there("\xc1\x9c\xf8")}, []string{"abc", "def", "ghi"}, api.ErrSum},
}

func TestMend(t *testing.T) {
	for i, c := range mended {
		n := len(c.parts)
		if l, err := shield.Mend(c.l, n); !slices.Equal(l, c.parts) || err != api.OK {
			t.Errorf("case %d: Mend(%v, %d) = %q, %v, want %q", i, c.l, n, l, err, c.parts)
		}
		if err := shield.Check(c.l, n); err != c.sum {
			t.Errorf("case %d: Check(%v, %d) = %v, want %v", i, c.l, n, err, c.sum)
		}
	}
}

// Where shards do not fit together the first ones that are there count.
func TestTheFirstThatAreThereAreTaken(t *testing.T) {
	for seed := range 400 {
		n, p := 1+seed%16, 1+seed/16%8
		var l []api.Shard
		for k := range n + p {
			l = append(l, there(odd(seed*50+k, 1+seed%4)))
		}
		checkMend(t, l, n)
		for _, lost := range []uint32{1, 3, 1 << n, 1<<p - 1, 1<<(p+1) - 1, 0x55555555, 0xaaaaaaaa, uint32(seed) * 2654435761} {
			checkMend(t, without(l, lost), n)
		}
	}
}

// One other byte is seen wherever it is, if there is but one shard more than
// are needed, and never if there is none.
func TestCheckSeesEachOtherByte(t *testing.T) {
	const size = 3
	for _, c := range []struct {
		n, p int
		lost uint32
	}{
		{1, 1, 0}, {1, 8, 0}, {1, 8, 0x1}, {2, 2, 0x1}, {2, 2, 0x8}, {3, 2, 0}, {3, 8, 0x07}, {3, 8, 0x7f}, {5, 3, 0x12}, {16, 1, 0}, {16, 8, 0}, {16, 8, 0x7f}, {16, 8, 0x5550},
	} {
		l := without(shardsOf(oddParts(c.n, c.n, size), c.p), c.lost)
		for k := range l {
			if !l[k].Has {
				continue
			}
			for at := range size {
				for _, by := range []byte{1, 0x80, 0xff} {
					checkOtherByte(t, l, c.n, k, at, by)
				}
			}
		}
	}
}

func checkOtherByte(t *testing.T, l []api.Shard, n, k, at int, by byte) {
	t.Helper()
	other := slices.Clone(l)
	changed := []byte(l[k].Bytes)
	changed[at] ^= by
	other[k].Bytes = string(changed)
	if err := shield.Check(other, n); err != api.ErrSum {
		t.Errorf("%d of %d shards, byte %d of shard %d changed by %x: %v", n, len(l), at, k, by, err)
	}
	checkMend(t, other, n)
	if err := shield.Check(justEnough(other, n), n); err != api.OK {
		t.Errorf("just %d of %d shards, byte %d of shard %d changed by %x: %v", n, len(l), at, k, by, err)
	}
}

// justEnough loses all that are there behind the first n of them.
func justEnough(l []api.Shard, n int) []api.Shard {
	left := slices.Clone(l)
	for k := range left {
		left[k].Has = left[k].Has && n > 0
		if left[k].Has {
			n--
		}
	}
	return left
}

// shards are there with these lengths, lost where a length is below 0.
func shards(lengths ...int) []api.Shard {
	var l []api.Shard
	for k, n := range lengths {
		if n < 0 {
			l = append(l, gone(odd(k, -n)))
		} else {
			l = append(l, there(odd(k, n)))
		}
	}
	return l
}

func repeat(length, times int) []int {
	return slices.Repeat([]int{length}, times)
}

var unmended = []struct {
	l    []api.Shard
	n    int
	want api.Errno
}{
	{nil, 0, api.ErrArg},
	{nil, 1, api.ErrArg},
	{nil, -1, api.ErrArg},
	{nil, math.MinInt, api.ErrArg},
	{nil, math.MaxInt, api.ErrArg},
	{shards(1), 0, api.ErrArg},
	{shards(1), 1, api.ErrArg},
	{shards(1, 1), 0, api.ErrArg},
	{shards(1, 1), -1, api.ErrArg},
	{shards(1, 1), -6, api.ErrArg},
	{shards(1, 1), 2, api.ErrArg},
	{shards(1, 1), 3, api.ErrArg},
	{shards(1, 1), math.MinInt, api.ErrArg},
	{shards(1, 1), math.MinInt + 1, api.ErrArg},
	{shards(1, 1), math.MaxInt, api.ErrArg},
	{shards(repeat(1, 10)...), 1, api.ErrArg},
	{shards(repeat(1, 18)...), 17, api.ErrArg},
	{shards(repeat(1, 25)...), 17, api.ErrArg},
	{shards(repeat(1, 16)...), 16, api.ErrArg},
	{shards(repeat(1, 25)...), 16, api.ErrArg},
	{shards(repeat(1, 300)...), 16, api.ErrArg},
	{shards(4097, 1), 2, api.ErrArg},
	{shards(1, 2), 0, api.ErrArg},
	{shards(-1, -1), 2, api.ErrArg},
	{shards(4097, 4097), 1, api.ErrLarge},
	{shards(4097, 1), 1, api.ErrLarge},
	{shards(1, 4097), 1, api.ErrLarge},
	{shards(-1, 4097), 1, api.ErrLarge},
	{shards(4097, -1), 1, api.ErrLarge},
	{shards(4096, 4097), 1, api.ErrLarge},
	{shards(1, 1, 4097, 2), 1, api.ErrLarge},
	{shards(-1, -1, -1, 4097), 3, api.ErrLarge},
	{shards(append(repeat(7, 23), 1<<16)...), 16, api.ErrLarge},
	{shards(1, 2), 1, api.ErrForm},
	{shards(2, 1), 1, api.ErrForm},
	{shards(0, 1), 1, api.ErrForm},
	{shards(1, 0), 1, api.ErrForm},
	{shards(4096, 4095), 1, api.ErrForm},
	{shards(1, 2, 4097), 1, api.ErrForm},
	{shards(-2, 1, 2), 1, api.ErrForm},
	{shards(-2, 1, -1, 2), 2, api.ErrForm},
	{shards(-1, -1, 1, 2, -1), 4, api.ErrForm},
	{shards(2, 2, 2, 1), 3, api.ErrForm},
	{shards(2, -1, 2, -1, 1), 1, api.ErrForm},
	{shards(append(repeat(7, 23), 8)...), 16, api.ErrForm},
	{shards(-1, -1), 1, api.ErrLost},
	{shards(-4097, -1), 1, api.ErrLost},
	{shards(repeat(-1, 9)...), 1, api.ErrLost},
	{shards(1, -1, -1), 2, api.ErrLost},
	{shards(-1, -1, 1), 2, api.ErrLost},
	{shards(-3, 4096, -4097), 2, api.ErrLost},
	{shards(append(repeat(7, 15), repeat(-7, 9)...)...), 16, api.ErrLost},
	{shards(append(repeat(-7, 9), repeat(7, 15)...)...), 16, api.ErrLost},
	{shards(append(repeat(-7, 8), repeat(7, 8)...)...), 9, api.ErrLost},
	{shards(repeat(-7, 24)...), 16, api.ErrLost},
}

func TestMendRefuses(t *testing.T) {
	for i, c := range unmended {
		if l, err := shield.Mend(c.l, c.n); l != nil || err != c.want {
			t.Errorf("case %d, Mend of %d shards, %d parts: %d parts, %v, want %v alone", i, len(c.l), c.n, len(l), err, c.want)
		}
		if err := shield.Check(c.l, c.n); err != c.want {
			t.Errorf("case %d, Check of %d shards, %d parts: %v, want %v", i, len(c.l), c.n, err, c.want)
		}
	}
}

func TestMendTakesAllThatIsWithinItsBounds(t *testing.T) {
	for n := -2; n < 20; n++ {
		for count := range 30 {
			checkMend(t, shards(repeat(2, count)...), n)
			checkMend(t, shards(repeat(-2, count)...), n)
		}
	}
}

// A lost shard of whatever length is not looked at.
func TestLostBytesAreNotLookedAt(t *testing.T) {
	parts := oddParts(3, 4, 5)
	full := shardsOf(parts, 3)
	for k := range full {
		for _, left := range []string{"", "other", "longer than the others", odd(1, 4096), odd(1, 4097), odd(1, 1<<16)} {
			l := slices.Clone(full)
			l[k] = gone(left)
			if got, err := shield.Mend(l, 4); !slices.Equal(got, parts) || err != api.OK {
				t.Errorf("shard %d lost, with %d bytes left: %x, %v", k, len(left), got, err)
			}
			if err := shield.Check(l, 4); err != api.OK {
				t.Errorf("shard %d lost, with %d bytes left: %v", k, len(left), err)
			}
		}
	}
}
