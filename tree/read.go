package tree

import (
	"lumberroom/api"
	"lumberroom/num"
)

// Read: P45.
func Read(s string) ([]api.Node, api.Errno) {
	if len(s) > api.MaxFile {
		return nil, api.ErrLarge
	}
	r := reader{left: s}
	l := r.nodes()
	if r.err != api.OK {
		return nil, r.err
	}
	if len(r.left) > 0 {
		return nil, api.ErrForm
	}
	if err := Check(l); err != api.OK {
		return nil, err
	}
	return l, api.OK
}

// reader reads from the front of what is left. Its first error stays, and from
// there on nothing more is read: each thing is its zero value.
type reader struct {
	left string
	err  api.Errno
}

func (r *reader) nodes() []api.Node {
	var l []api.Node
	for range r.number(api.MaxNodes) {
		l = append(l, r.node())
	}
	return l
}

// node may have any byte as its Kind: that is told only when all was read.
func (r *reader) node() api.Node {
	var n api.Node
	n.Name = r.text()
	n.Kind = r.kind()
	n.Mode = r.number(api.MaxMode)
	n.Time = r.signed()
	n.Size = r.number(api.MaxFile)
	n.Parts = r.parts()
	n.Link = r.text()
	return n
}

func (r *reader) parts() []api.ID {
	var l []api.ID
	for range r.number(api.MaxPieces) {
		var id api.ID
		copy(id[:], r.bytes(len(id)))
		l = append(l, id)
	}
	return l
}

func (r *reader) kind() int {
	s := r.bytes(1)
	if s == "" {
		return 0
	}
	return int(s[0])
}

func (r *reader) number(most uint64) int {
	n, k, err := num.Get(r.left)
	if err == api.OK && n > most {
		err = api.ErrLarge
	}
	if !r.take(k, err) {
		return 0
	}
	return int(n)
}

func (r *reader) signed() int {
	n, k, err := num.GetInt(r.left)
	if !r.take(k, err) {
		return 0
	}
	return n
}

func (r *reader) text() string {
	s, k, err := num.GetText(r.left)
	if !r.take(k, err) {
		return ""
	}
	return s
}

// bytes are the next k, or none if they are not all there.
func (r *reader) bytes(k int) string {
	err := api.OK
	if len(r.left) < k {
		err = api.ErrShort
	}
	s := r.left
	if !r.take(k, err) {
		return ""
	}
	return s[:k]
}

// take goes on by the k bytes that a thing took, if neither it nor one ahead
// had an error.
func (r *reader) take(k int, err api.Errno) bool {
	if r.err != api.OK {
		return false
	}
	if err != api.OK {
		r.err = err
		return false
	}
	r.left = r.left[k:]
	return true
}
