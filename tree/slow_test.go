package tree_test

import (
	"slices"
	"strings"
	"testing"

	"lumberroom/api"
	"lumberroom/names"
	"lumberroom/num"
	"lumberroom/tree"
)

// Each call written anew, word by word, with the limits as numbers.

func slowCheck(l []api.Node) api.Errno {
	if len(l) >= 65 {
		return api.ErrLarge
	}
	for i, n := range l {
		if err := names.Check(n.Name); err != api.OK {
			return err
		}
		if n.Mode < 0 || n.Mode >= 512 || n.Size < 0 || n.Size >= 4097 || len(n.Parts) >= 301 {
			return api.ErrArg
		}
		if n.Kind < 1 || n.Kind > 3 {
			return api.ErrKind
		}
		// What a node of its Kind has beside Name, Kind, Mode and Time.
		asked := api.Node{Size: n.Size, Parts: n.Parts}
		if n.Kind == 2 {
			asked = api.Node{Parts: make([]api.ID, 1)}
		}
		if n.Kind == 3 {
			asked = api.Node{Link: n.Link}
		}
		if n.Size != asked.Size || len(n.Parts) != len(asked.Parts) || n.Link != asked.Link || n.Kind == 3 && n.Link == "" {
			return api.ErrForm
		}
		if len(n.Link) >= 1025 {
			return api.ErrLarge
		}
		if i > 0 && strings.Compare(l[i-1].Name, n.Name) != -1 {
			return api.ErrForm
		}
	}
	return api.OK
}

func slowFind(l []api.Node, name string) (int, api.Errno) {
	if err := slowCheck(l); err != api.OK {
		return 0, err
	}
	for i := range l {
		if l[i].Name == name {
			return i, api.OK
		}
	}
	return 0, api.ErrNone
}

func slowWrite(l []api.Node) (string, api.Errno) {
	if err := slowCheck(l); err != api.OK {
		return "", err
	}
	if s := written(l); len(s) <= 4096 {
		return s, api.OK
	}
	return "", api.ErrLarge
}

// written is how nodes are written, be they right or wrong.
func written(l []api.Node) string {
	s := num.Put(uint64(len(l)))
	for _, n := range l {
		s += line(n)
	}
	return s
}

func line(n api.Node) string {
	s := text(n.Name) + string([]byte{byte(n.Kind)}) + num.Put(uint64(n.Mode)) + num.PutInt(n.Time) + num.Put(uint64(n.Size)) + num.Put(uint64(len(n.Parts)))
	for _, id := range n.Parts {
		s += string(id[:])
	}
	return s + text(n.Link)
}

func text(s string) string { return strings.ReplaceAll(s, "\x00", "\x00\xff") + "\x00\x00" }

// slowRead goes by places in s, and throws the first error.
func slowRead(s string) (l []api.Node, err api.Errno) {
	defer func() {
		if e, ok := recover().(api.Errno); ok {
			l, err = nil, e
		}
	}()
	at := 0
	went := func(k int, err api.Errno) {
		if err != api.OK {
			panic(err)
		}
		at += k
	}
	number := func(most uint64) int {
		n, k, err := num.Get(s[at:])
		went(k, err)
		if n > most {
			panic(api.ErrLarge)
		}
		return int(n)
	}
	text := func() string {
		x, k, err := num.GetText(s[at:])
		went(k, err)
		return x
	}
	need := func(k int) string {
		if at+k > len(s) {
			panic(api.ErrShort)
		}
		at += k
		return s[at-k : at]
	}
	if len(s) >= 4097 {
		return nil, api.ErrLarge
	}
	for count := number(64); count > 0; count-- {
		n := api.Node{Name: text()}
		n.Kind = int(need(1)[0])
		n.Mode = number(511)
		time, k, err := num.GetInt(s[at:])
		went(k, err)
		n.Time = time
		n.Size = number(4096)
		for left := number(300); left > 0; left-- {
			n.Parts = append(n.Parts, api.ID([]byte(need(8))))
		}
		n.Link = text()
		l = append(l, n)
	}
	if at < len(s) {
		panic(api.ErrForm)
	}
	if err := slowCheck(l); err != api.OK {
		panic(err)
	}
	return l, api.OK
}

func same(a, b []api.Node) bool {
	return slices.EqualFunc(a, b, func(n, m api.Node) bool {
		return n.Name == m.Name && n.Kind == m.Kind && n.Mode == m.Mode && n.Time == m.Time && n.Size == m.Size && slices.Equal(n.Parts, m.Parts) && n.Link == m.Link
	})
}

// few are as many of a list as are worth telling.
func few(l []api.Node) []api.Node { return l[:min(3, len(l))] }

func checkCheck(t *testing.T, l []api.Node) {
	t.Helper()
	if got, want := tree.Check(l), slowCheck(l); got != want {
		t.Fatalf("Check of %d nodes, %.300v..: %v, want %v", len(l), few(l), got, want)
	}
}

func checkFind(t *testing.T, l []api.Node, name string) {
	t.Helper()
	want, wrong := slowFind(l, name)
	if got, err := tree.Find(l, name); got != want || err != wrong {
		t.Fatalf("Find of %.60q in %d nodes, %.300v..: %d, %v, want %d, %v", name, len(l), few(l), got, err, want, wrong)
	}
}

func checkWrite(t *testing.T, l []api.Node) {
	t.Helper()
	want, wrong := slowWrite(l)
	if got, err := tree.Write(l); got != want || err != wrong {
		t.Fatalf("Write of %d nodes, %.300v..: %.60q, %v, want %.60q, %v", len(l), few(l), got, err, want, wrong)
	}
}

// checkRead: a directory has one form alone, so that what was read is written
// as it was.
func checkRead(t *testing.T, s string) {
	t.Helper()
	want, wrong := slowRead(s)
	got, err := tree.Read(s)
	if !same(got, want) || err != wrong || wrong != api.OK && got != nil {
		t.Fatalf("Read(%.90q) = %.300v, %v, want %.300v, %v", s, few(got), err, few(want), wrong)
	}
	if err != api.OK {
		return
	}
	if again, err := tree.Write(got); again != s || err != api.OK {
		t.Fatalf("%.90q is written as %.90q, %v", s, again, err)
	}
}
