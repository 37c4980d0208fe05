package tree

import (
	"lumberroom/api"
	"lumberroom/num"
)

// Write: P44.
func Write(l []api.Node) (string, api.Errno) {
	if err := Check(l); err != api.OK {
		return "", err
	}
	out := appendNumber(nil, len(l))
	for _, n := range l {
		out = appendNode(out, n)
	}
	if len(out) > api.MaxFile {
		return "", api.ErrLarge
	}
	return string(out), api.OK
}

func appendNode(out []byte, n api.Node) []byte {
	out = appendText(out, n.Name)
	out = append(out, byte(n.Kind))
	out = appendNumber(out, n.Mode)
	out = append(out, num.PutInt(n.Time)...)
	out = appendNumber(out, n.Size)
	out = appendNumber(out, len(n.Parts))
	for _, id := range n.Parts {
		out = append(out, id[:]...)
	}
	return appendText(out, n.Link)
}

func appendNumber(out []byte, n int) []byte {
	return append(out, num.Put(uint64(n))...)
}

// appendText is for texts that Check let pass: none of them is too long for
// PutText, so that there is no error to be told.
func appendText(out []byte, s string) []byte {
	text, _ := num.PutText(s)
	return append(out, text...)
}
