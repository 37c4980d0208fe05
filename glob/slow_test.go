package glob_test

import (
	"fmt"
	"regexp"
	"strings"
	"unicode/utf8"

	"lumberroom/api"
	"lumberroom/names"
)

// mark is a character of a part; quoted: a backslash stood ahead of it.
type mark struct {
	c      rune
	quoted bool
}

func (m mark) is(c rune) bool { return !m.quoted && m.c == c }

// slowMarks takes the backslashes out of a part.
func slowMarks(text string) ([]mark, bool) {
	var l []mark
	quoted := false
	for _, c := range text {
		if c == '\\' && !quoted {
			quoted = true
			continue
		}
		l = append(l, mark{c, quoted})
		quoted = false
	}
	return l, !quoted
}

// slowClass writes what stands between "[" and "]" as a regular expression.
func slowClass(l []mark) (string, bool) {
	out := "["
	if len(l) > 0 && l[0].is('^') {
		out, l = "[^", l[1:]
	}
	if len(l) == 0 {
		return "", false
	}
	for len(l) > 0 {
		if len(l) == 1 || !l[1].is('-') {
			out += fmt.Sprintf(`\x{%x}`, l[0].c)
			l = l[1:]
			continue
		}
		if len(l) == 2 || l[0].c > l[2].c {
			return "", false
		}
		out += fmt.Sprintf(`\x{%x}-\x{%x}`, l[0].c, l[2].c)
		l = l[3:]
	}
	return out + "]", true
}

// slowPart writes a part that is for one name as a regular expression.
func slowPart(text string) (string, bool) {
	l, ok := slowMarks(text)
	if !ok || text == "" {
		return "", false
	}
	out := `(?s)\A`
	for i := 0; i < len(l); i++ {
		switch {
		case l[i].is('*'):
			out += ".*"
		case l[i].is('?'):
			out += "."
		case l[i].is('['):
			end := i + 1
			for end < len(l) && !l[end].is(']') {
				end++
			}
			if end == len(l) {
				return "", false
			}
			class, ok := slowClass(l[i+1 : end])
			if !ok {
				return "", false
			}
			out += class
			i = end
		default:
			out += fmt.Sprintf(`\x{%x}`, l[i].c)
		}
	}
	return out + `\z`, true
}

// slowPattern writes each part as a regular expression, "**" as "".
func slowPattern(pattern string) ([]string, api.Errno) {
	if len(pattern) > 60 {
		return nil, api.ErrLarge
	}
	if pattern == "" || pattern[0] != '/' || !utf8.ValidString(pattern) {
		return nil, api.ErrSyntax
	}
	var l []string
	for _, text := range strings.Split(pattern, "/")[1:] {
		if text == "**" {
			l = append(l, "")
			continue
		}
		expression, ok := slowPart(text)
		if !ok {
			return nil, api.ErrSyntax
		}
		l = append(l, expression)
	}
	return l, api.OK
}

// slowNames tries each number of names for each "**".
func slowNames(parts []*regexp.Regexp, l []string) bool {
	if len(parts) == 0 {
		return len(l) == 0
	}
	if parts[0] != nil {
		return len(l) > 0 && parts[0].MatchString(l[0]) && slowNames(parts[1:], l[1:])
	}
	if len(parts) > 1 && parts[1] == nil {
		return slowNames(parts[1:], l)
	}
	for n := range len(l) + 1 {
		if slowNames(parts[1:], l[n:]) {
			return true
		}
	}
	return false
}

func slowMatch(pattern, path string) (bool, api.Errno) {
	expressions, err := slowPattern(pattern)
	if err != api.OK {
		return false, err
	}
	l, err := names.Split(path)
	if err != api.OK {
		return false, err
	}
	var parts []*regexp.Regexp
	for _, expression := range expressions {
		if expression == "" {
			parts = append(parts, nil)
			continue
		}
		parts = append(parts, regexp.MustCompile(expression))
	}
	return slowNames(parts, l), api.OK
}

// slowOut asks for the parent first; rules and path are right.
func slowOut(rules []string, path string) bool {
	if path == "/" {
		return false
	}
	parent := path[:strings.LastIndex(path, "/")]
	if parent != "" && slowOut(rules, parent) {
		return true
	}
	for i := len(rules) - 1; i >= 0; i-- {
		if is, _ := slowMatch(strings.TrimPrefix(rules[i], "!"), path); is {
			return rules[i][0] != '!'
		}
	}
	return false
}

func slowSkips(rules []string, path string) (bool, api.Errno) {
	if len(rules) > 20 {
		return false, api.ErrLarge
	}
	for _, rule := range rules {
		if len(rule) > 0 && rule[0] == '!' {
			rule = rule[1:]
		}
		if _, err := slowPattern(rule); err != api.OK {
			return false, err
		}
	}
	if _, err := names.Split(path); err != api.OK {
		return false, err
	}
	return slowOut(rules, path), api.OK
}
