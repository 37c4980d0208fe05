package press

import (
	"lumberroom/api"
	"lumberroom/huff"
)

// codeBook tells which sign a code is: for each number of bits the signs whose
// codes have so many.
type codeBook [api.MaxBits + 1]shelf

// shelf has signs whose codes have one number of bits. In the order of the
// signs each of these codes is the one ahead plus 1, so the first tells them all.
type shelf struct {
	first int
	signs []byte
}

// makeBook has the codes of signs of these lengths, with huff.Codes' error.
func makeBook(lengths []int) (*codeBook, api.Errno) {
	codes, err := huff.Codes(lengths)
	if err != api.OK {
		return nil, err
	}
	book := &codeBook{}
	for sign, n := range lengths {
		if n == 0 {
			continue
		}
		if len(book[n].signs) == 0 {
			book[n].first = codes[sign]
		}
		book[n].signs = append(book[n].signs, byte(sign))
	}
	return book, api.OK
}

// find is the sign with this code of so many bits; false, if there is none.
func (b *codeBook) find(code, bits int) (byte, bool) {
	on := b[bits]
	at := code - on.first
	if at < 0 || at >= len(on.signs) {
		return 0, false
	}
	return on.signs[at], true
}

// readSigns reads s, which must be the codes of so many signs, and no more.
func (b *codeBook) readSigns(s string, count int) (string, api.Errno) {
	r := bitReader{s: s}
	var signs []byte
	for range count {
		sign, err := b.readSign(&r)
		if err != api.OK {
			return "", err
		}
		signs = append(signs, sign)
	}
	if !r.onlyFilling() {
		return "", api.ErrForm
	}
	return string(signs), api.OK
}

func (b *codeBook) readSign(r *bitReader) (byte, api.Errno) {
	code := 0
	for n := 1; n <= api.MaxBits; n++ {
		bit, there := r.take()
		if !there {
			return 0, api.ErrShort
		}
		code = code<<1 | bit
		if sign, found := b.find(code, n); found {
			return sign, api.OK
		}
	}
	// No code is longer, so it is not asked whether another bit is there.
	return 0, api.ErrForm
}
