package glob

// part of a pattern: many names, or one that its signs take.
type part struct {
	many  bool
	signs []sign
}

// sign of a part: many characters, or one that is in an item (not: in none).
type sign struct {
	many, not bool
	items     []item
}

// item is the characters from the first to the last one.
type item struct{ first, last rune }

// taker of things that stand in a row: parts take names as signs take
// characters.
type taker[T any] interface {
	takesMany() bool
	takes(T) bool
}

func (p part) takesMany() bool { return p.many }

func (p part) takes(name string) bool {
	return takeAll(p.signs, []rune(name))
}

func (s sign) takesMany() bool { return s.many }

func (s sign) takes(c rune) bool {
	for _, i := range s.items {
		if i.first <= c && c <= i.last {
			return !s.not
		}
	}
	return s.not
}

// takeAll tells whether those of l, one behind the other, take all things.
func takeAll[S taker[T], T any](l []S, things []T) bool {
	// taken[n]: those of l so far take the first n things. With all ends kept at
	// once no way is gone twice, however many of l take many.
	taken := make([]bool, len(things)+1)
	taken[0] = true
	for _, s := range l {
		if s.takesMany() {
			spread(taken)
			continue
		}
		for n := len(things); n > 0; n-- {
			taken[n] = taken[n-1] && s.takes(things[n-1])
		}
		taken[0] = false
	}
	return taken[len(things)]
}

// spread lets all that is behind a taken end be taken too.
func spread(taken []bool) {
	for n := 1; n < len(taken); n++ {
		taken[n] = taken[n] || taken[n-1]
	}
}
