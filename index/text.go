package index

import (
	"lumberroom/api"
	"lumberroom/num"
)

const (
	idBytes   = 8
	headBytes = idBytes + 1 // of a place: its ID and its Kind
)

// Text: P33.
func Text(x []api.Place) (string, api.Errno) {
	if err := Check(x); err != api.OK {
		return "", err
	}
	out := appendNumber(nil, len(x))
	for _, p := range x {
		out = append(out, p.ID[:]...)
		out = append(out, byte(p.Kind))
		out = appendNumber(out, p.Pack)
		out = appendNumber(out, p.At)
		out = appendNumber(out, p.Len)
	}
	return string(out), api.OK
}

// Read: P33.
func Read(s string) ([]api.Place, api.Errno) {
	count, left, err := readNumber(s, api.MaxIndex)
	if err != api.OK {
		return nil, err
	}
	var places []api.Place
	for range count {
		p, behind, err := readPlace(left)
		if err != api.OK {
			return nil, err
		}
		places = append(places, p)
		left = behind
	}
	if len(left) > 0 {
		return nil, api.ErrForm
	}
	if err := Check(places); err != api.OK {
		return nil, err
	}
	return places, api.OK
}

func appendNumber(out []byte, n int) []byte {
	return append(out, num.Put(uint64(n))...)
}

// readPlace reads a place from the front of s, and tells what is left behind
// it. Its Kind may be any byte: that is told only when all bytes were read.
func readPlace(s string) (api.Place, string, api.Errno) {
	if len(s) < headBytes {
		return api.Place{}, "", api.ErrShort
	}
	var id api.ID
	copy(id[:], s)
	kind, left := int(s[idBytes]), s[headBytes:]
	var numbers [3]int
	for i := range numbers {
		n, behind, err := readNumber(left, api.MaxNumber)
		if err != api.OK {
			return api.Place{}, "", err
		}
		numbers[i] = n
		left = behind
	}
	return api.Place{ID: id, Kind: kind, Pack: numbers[0], At: numbers[1], Len: numbers[2]}, left, api.OK
}

// readNumber reads a number up to most from the front of s, and tells what is
// left behind it.
func readNumber(s string, most uint64) (int, string, api.Errno) {
	n, k, err := num.Get(s)
	if err != api.OK {
		return 0, "", err
	}
	if n > most {
		return 0, "", api.ErrLarge
	}
	return int(n), s[k:], api.OK
}
