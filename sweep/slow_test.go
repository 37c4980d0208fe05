package sweep_test

import (
	"slices"
	"strconv"
	"strings"
	"testing"

	"lumberroom/api"
	"lumberroom/sweep"
)

// What stands here is written anew from the chapter's words.

func slowCheck(h api.Heap) api.Errno {
	if len(h.Things) >= 41 || len(h.Roots) >= 65 {
		return api.ErrLarge
	}
	for _, x := range h.Things {
		if len(x.Kids) >= 65 {
			return api.ErrLarge
		}
		if !slices.Contains([]int{0, 1, 2}, x.Colour) {
			return api.ErrForm
		}
		if x.Free && len(x.Kids) != 0 || x.Free && x.Colour != 0 {
			return api.ErrForm
		}
		for _, kid := range x.Kids {
			if !isHeld(h, kid) {
				return api.ErrArg
			}
		}
	}
	for _, root := range h.Roots {
		if !isHeld(h, root) {
			return api.ErrArg
		}
	}
	return api.OK
}

// isHeld tells whether it is a thing that is not Free.
func isHeld(h api.Heap, n int) bool {
	for i := range h.Things {
		if i == n {
			return !h.Things[i].Free
		}
	}
	return false
}

// slowLive asks from each thing upwards.
func slowLive(h api.Heap) ([]bool, api.Errno) {
	if err := slowCheck(h); err != api.OK {
		return nil, err
	}
	var live []bool
	for i := range h.Things {
		live = append(live, isLive(h, i, make([]bool, len(h.Things))))
	}
	return live, api.OK
}

// isLive asks: is it a root, or a kid of one that is? Of what was asked of
// already nothing more is to be learnt.
func isLive(h api.Heap, n int, asked []bool) bool {
	if slices.Contains(h.Roots, n) {
		return true
	}
	asked[n] = true
	for i, x := range h.Things {
		if !asked[i] && slices.Contains(x.Kids, n) && isLive(h, i, asked) {
			return true
		}
	}
	return false
}

// slowDo makes each list of the answer from the ones it has been given.
func slowDo(h api.Heap, a api.Act) (api.Heap, api.Errno) {
	list, err := slowLive(h)
	if err != api.OK {
		return api.Heap{}, err
	}
	live := make(map[int]bool)
	for i := range list {
		live[i] = list[i]
	}
	no := func(err api.Errno) (api.Heap, api.Errno) { return api.Heap{}, err }
	g := copied(h)
	switch a.Kind {
	case 1:
		return slowMark(g), api.OK
	case 2:
		at := 0
		for at < len(g.Things) && !g.Things[at].Free {
			at++
		}
		if at == 40 {
			return no(api.ErrFull)
		}
		g.Things = slices.Concat(g.Things[:at], []api.Thing{{}}, g.Things[min(at+1, len(g.Things)):])
		return slowHold(g, at)
	case 3:
		if !live[a.From] || !live[a.To] {
			return no(api.ErrNone)
		}
		x := &g.Things[a.From]
		if len(x.Kids) == 64 {
			return no(api.ErrLarge)
		}
		x.Kids = slices.Concat(x.Kids, []int{a.To})
		return slowGrey(g, a.To), api.OK
	case 4:
		if !live[a.From] || a.To < 0 || a.To > len(g.Things[a.From].Kids)-1 {
			return no(api.ErrNone)
		}
		g.Things[a.From].Kids = without(g.Things[a.From].Kids, a.To)
		return g, api.OK
	case 5:
		if !live[a.To] {
			return no(api.ErrNone)
		}
		return slowHold(g, a.To)
	case 6:
		if a.To < 0 || a.To > len(g.Roots)-1 {
			return no(api.ErrNone)
		}
		g.Roots = without(g.Roots, a.To)
		return g, api.OK
	}
	return no(api.ErrKind)
}

func slowHold(g api.Heap, thing int) (api.Heap, api.Errno) {
	if len(g.Roots) == 64 {
		return api.Heap{}, api.ErrLarge
	}
	g.Roots = slices.Concat(g.Roots, []int{thing})
	return slowGrey(g, thing), api.OK
}

func slowGrey(g api.Heap, thing int) api.Heap {
	if g.Busy && g.Things[thing].Colour == 0 {
		g.Things[thing].Colour = 1
	}
	return g
}

func without(l []int, at int) []int {
	var left []int
	for i, n := range l {
		if i != at {
			left = append(left, n)
		}
	}
	return left
}

// slowMark tells of each thing by itself what becomes of it.
func slowMark(h api.Heap) api.Heap {
	grey := slices.IndexFunc(h.Things, func(x api.Thing) bool { return x.Colour == 1 })
	g := api.Heap{Roots: h.Roots, Busy: !h.Busy || grey >= 0}
	for i, x := range h.Things {
		switch {
		case !h.Busy && slices.Contains(h.Roots, i):
			x.Colour = 1
		case !h.Busy:
			x.Colour = 0
		case grey < 0 && x.Colour == 0:
			x = api.Thing{Free: true}
		case grey < 0:
			x.Colour = 0
		case i == grey:
			x.Colour = 2
		case x.Colour == 0 && slices.Contains(h.Things[grey].Kids, i):
			x.Colour = 1
		}
		g.Things = append(g.Things, x)
	}
	return g
}

// copied is a heap in memory of its own.
func copied(h api.Heap) api.Heap {
	h.Things = slices.Clone(h.Things)
	for i := range h.Things {
		h.Things[i].Kids = slices.Clone(h.Things[i].Kids)
	}
	h.Roots = slices.Clone(h.Roots)
	return h
}

func same(h, g api.Heap) bool {
	return h.Busy == g.Busy && slices.Equal(h.Roots, g.Roots) && slices.EqualFunc(h.Things, g.Things, func(x, y api.Thing) bool {
		return x.Free == y.Free && x.Colour == y.Colour && slices.Equal(x.Kids, y.Kids)
	})
}

// isNone tells whether a heap is the zero value.
func isNone(h api.Heap) bool { return h.Things == nil && h.Roots == nil && !h.Busy }

func checkCheck(t *testing.T, h api.Heap) {
	t.Helper()
	if err, want := sweep.Check(h), slowCheck(h); err != want {
		t.Fatalf("Check(%s) = %v, want %v", told(h), err, want)
	}
}

func checkLive(t *testing.T, h api.Heap) {
	t.Helper()
	live, err := sweep.Live(h)
	want, wrong := slowLive(h)
	if err != wrong || !slices.Equal(live, want) || err != api.OK && live != nil {
		t.Fatalf("Live(%s) = %s, %v, want %s, %v", told(h), marks(live), err, marks(want), wrong)
	}
}

func checkDo(t *testing.T, h api.Heap, a api.Act) {
	t.Helper()
	g, err := sweep.Do(h, a)
	want, wrong := slowDo(h, a)
	if err != wrong || !same(g, want) || err != api.OK && !isNone(g) {
		t.Fatalf("Do(%s, %v) = %s, %v, want %s, %v", told(h), a, told(g), err, told(want), wrong)
	}
}

// marks has an x of each thing that is live.
func marks(live []bool) string {
	s := make([]byte, len(live))
	for i, l := range live {
		s[i] = '.'
		if l {
			s[i] = 'x'
		}
	}
	return string(s)
}

// told is a heap as a text: of each thing w, g or b, or "-" of one that is
// Free, and its kids; behind "|" the roots, and "!", if it is Busy.
func told(h api.Heap) string {
	var b strings.Builder
	for _, x := range h.Things[:min(len(h.Things), 70)] {
		switch {
		case x.Colour < 0 || x.Colour > 2:
			b.WriteString("(" + strconv.Itoa(x.Colour) + ")")
		case !x.Free || x.Colour != 0:
			b.WriteByte("wgb"[x.Colour])
		}
		if x.Free {
			b.WriteByte('-')
		}
		b.WriteString(numbers(x.Kids, ",") + " ")
	}
	b.WriteByte('|')
	if len(h.Roots) > 0 {
		b.WriteString(" " + numbers(h.Roots, " "))
	}
	if h.Busy {
		b.WriteString(" !")
	}
	return b.String()
}

func numbers(l []int, between string) string {
	var s []string
	for _, n := range l[:min(len(l), 70)] {
		s = append(s, strconv.Itoa(n))
	}
	return strings.Join(s, between)
}

// heap is the heap that such a text tells.
func heap(s string) api.Heap {
	var h api.Heap
	things, roots, _ := strings.Cut(s, "|")
	for field := range strings.FieldsSeq(things) {
		var x api.Thing
		for field != "" && strings.Contains("wgb-", field[:1]) {
			if field[0] == '-' {
				x.Free = true
			} else {
				x.Colour = strings.IndexByte("wgb", field[0])
			}
			field = field[1:]
		}
		for kid := range strings.SplitSeq(field, ",") {
			if n, err := strconv.Atoi(kid); err == nil {
				x.Kids = append(x.Kids, n)
			}
		}
		h.Things = append(h.Things, x)
	}
	for field := range strings.FieldsSeq(roots) {
		if n, err := strconv.Atoi(field); err == nil {
			h.Roots = append(h.Roots, n)
		}
		h.Busy = field == "!"
	}
	return h
}
