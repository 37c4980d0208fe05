package glob

import (
	"strings"
	"unicode/utf8"

	"lumberroom/api"
)

const (
	slash    = "/"
	anyNames = "**"
)

// readPattern makes parts of a pattern.
func readPattern(pattern string) ([]part, api.Errno) {
	if len(pattern) > api.MaxPattern {
		return nil, api.ErrLarge
	}
	inside, ok := strings.CutPrefix(pattern, slash)
	if !ok || !utf8.ValidString(inside) {
		return nil, api.ErrSyntax
	}
	var l []part
	// A "/" ends a part wherever it stands, in a class and behind a backslash too.
	for _, text := range strings.Split(inside, slash) {
		p, ok := readPart(text)
		if !ok {
			return nil, api.ErrSyntax
		}
		l = append(l, p)
	}
	return l, api.OK
}

func readPart(text string) (part, bool) {
	if text == anyNames {
		return part{many: true}, true
	}
	var l []sign
	left := []rune(text)
	for len(left) > 0 {
		s, behind, ok := readSign(left)
		if !ok {
			return part{}, false
		}
		l, left = append(l, s), behind
	}
	return part{signs: l}, len(l) > 0
}

// readSign takes one sign from the front, and answers what is behind it.
func readSign(left []rune) (sign, []rune, bool) {
	switch left[0] {
	case '*':
		return sign{many: true}, left[1:], true
	case '?':
		// No character is in one of no items.
		return sign{not: true}, left[1:], true
	case '[':
		return readClass(left[1:])
	}
	c, left, ok := readCharacter(left)
	return sign{items: []item{{first: c, last: c}}}, left, ok
}

// readClass reads from behind the "[" of a class to behind its "]".
func readClass(left []rune) (sign, []rune, bool) {
	var s sign
	if begins(left, '^') {
		s.not, left = true, left[1:]
	}
	for !begins(left, ']') {
		i, behind, ok := readItem(left)
		if !ok {
			return sign{}, nil, false
		}
		s.items, left = append(s.items, i), behind
	}
	return s, left[1:], len(s.items) > 0
}

func readItem(left []rune) (item, []rune, bool) {
	first, left, ok := readCharacter(left)
	if !ok || !begins(left, '-') {
		return item{first: first, last: first}, left, ok
	}
	left = left[1:]
	if begins(left, ']') {
		return item{}, nil, false
	}
	last, left, ok := readCharacter(left)
	return item{first: first, last: last}, left, ok && first <= last
}

// readCharacter takes one character from the front, with its backslash if it
// has one.
func readCharacter(left []rune) (rune, []rune, bool) {
	if begins(left, '\\') {
		left = left[1:]
	}
	if len(left) == 0 {
		return 0, nil, false
	}
	return left[0], left[1:], true
}

func begins(left []rune, c rune) bool {
	return len(left) > 0 && left[0] == c
}
