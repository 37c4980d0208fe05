package pack

import (
	"lumberroom/api"
	"lumberroom/mix"
	"lumberroom/num"
)

const (
	headBytes = 1 + idBytes // of an entry: its Kind and its ID
	// What is pressed has at most one byte more than it had.
	maxPressed = api.MaxFile + 1
)

// List: P29.
func List(s string) ([]api.Entry, api.Errno) {
	body, list, err := unseal(s)
	if err != api.OK {
		return nil, err
	}
	count, list, err := readNumber(list, api.MaxBlobs)
	if err != api.OK {
		return nil, err
	}
	var entries []api.Entry
	ahead := map[api.ID]int{} // where each blob ahead begins
	at := 0
	for range count {
		x, left, err := readEntry(list)
		if err != api.OK {
			return nil, err
		}
		if _, there := ahead[x.ID]; there || x.Len > len(body)-at {
			return nil, api.ErrForm
		}
		x.At = at
		ahead[x.ID] = at
		entries = append(entries, x)
		at += x.Len
		list = left
	}
	if len(list) > 0 || at < len(body) {
		return nil, api.ErrForm
	}
	return entries, api.OK
}

// unseal tells the body and the list of a pack whose sum fits.
func unseal(s string) (body, list string, err api.Errno) {
	if len(s) < endBytes {
		return "", "", api.ErrShort
	}
	summed := s[:len(s)-idBytes]
	if idAt(s[len(summed):]) != mix.ID(summed) {
		return "", "", api.ErrSum
	}
	told := s[:len(s)-endBytes]
	size := int(s[len(told)]) | int(s[len(told)+1])<<8
	if size > len(told) {
		return "", "", api.ErrForm
	}
	return told[:len(told)-size], told[len(told)-size:], api.OK
}

// readEntry reads an entry from the front of a list, and tells what is left
// behind it. Where the blob begins is not told there.
func readEntry(list string) (api.Entry, string, api.Errno) {
	if len(list) < headBytes {
		return api.Entry{}, "", api.ErrShort
	}
	kind := int(list[0])
	if !isKind(kind) {
		return api.Entry{}, "", api.ErrKind
	}
	size, left, err := readNumber(list[headBytes:], maxPressed)
	if err != api.OK {
		return api.Entry{}, "", err
	}
	return api.Entry{ID: idAt(list[1:]), Kind: kind, Len: size}, left, api.OK
}

// readNumber reads a number up to most from the front of s, and tells what is
// left behind it.
func readNumber(s string, most uint64) (int, string, api.Errno) {
	n, k, err := num.Get(s)
	if err != api.OK {
		return 0, "", err
	}
	if n > most {
		return 0, "", api.ErrLarge
	}
	return int(n), s[k:], api.OK
}

// idAt is the ID at the front of s, which has at least so many bytes.
func idAt(s string) api.ID {
	var id api.ID
	copy(id[:], s)
	return id
}
