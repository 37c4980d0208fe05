package press

const byteBits = 8

// bitWriter puts bits behind its bytes, the highest bit of a byte first.
type bitWriter struct {
	bytes []byte
	free  int // how many bits of the last byte are not yet put: these are 0
}

// put puts the lowest count bits of n, the highest of them first.
func (w *bitWriter) put(n, count int) {
	for i := count - 1; i >= 0; i-- {
		if w.free == 0 {
			w.bytes = append(w.bytes, 0)
			w.free = byteBits
		}
		w.free--
		w.bytes[len(w.bytes)-1] |= byte(n>>i&1) << w.free
	}
}

// bitReader takes the bits of s, the highest bit of a byte first.
type bitReader struct {
	s  string
	at int // how many bits were taken
}

// take takes the next bit; false, if there is none.
func (r *bitReader) take() (int, bool) {
	if r.at == byteBits*len(r.s) {
		return 0, false
	}
	bit := int(r.s[r.at/byteBits]) >> (byteBits - 1 - r.at%byteBits) & 1
	r.at++
	return bit, true
}

// onlyFilling tells whether nothing is left but bits 0 of a byte that was taken from.
func (r *bitReader) onlyFilling() bool {
	begun := (r.at + byteBits - 1) / byteBits
	if begun < len(r.s) {
		return false
	}
	for bit, there := r.take(); there; bit, there = r.take() {
		if bit != 0 {
			return false
		}
	}
	return true
}
