package flate

import "marquetry/api"

// refusal is what is panicked with where reading is given up.
type refusal struct {
	why api.Errno
}

// reasonOf is why reading was given up, by what was recovered.
func reasonOf(recovered any) api.Errno {
	switch r := recovered.(type) {
	case nil:
		return api.OK
	case refusal:
		return r.why
	}
	panic(recovered)
}

// bitReader hands out the bits of bytes, of each the lowest ahead.
type bitReader struct {
	bytes []byte
	taken int // bits
}

func (r *bitReader) bit() int {
	place := r.taken / 8
	if place == len(r.bytes) {
		panic(refusal{api.ErrShort})
	}
	bit := r.bytes[place] >> (r.taken % 8) & 1
	r.taken++
	return int(bit)
}

// number takes a number of so many bits.
func (r *bitReader) number(bits int) int {
	n := 0
	for i := range bits {
		n |= r.bit() << i
	}
	return n
}

// begun is how many bytes were taken, or some bits of them.
func (r *bitReader) begun() int {
	return (r.taken + 7) / 8
}

// passOver leaves the bits up to the end of the byte.
func (r *bitReader) passOver() {
	r.taken = 8 * r.begun()
}
