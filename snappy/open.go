package snappy

import "marquetry/api"

// refusal is what is panicked with where reading is given up.
type refusal struct {
	why api.Errno
}

// reasonOf is why reading was given up, by what was recovered.
func reasonOf(recovered any) api.Errno {
	switch r := recovered.(type) {
	case nil:
		return api.OK
	case refusal:
		return r.why
	}
	panic(recovered)
}

// Length tells the number with which b begins: how many bytes it says to make.
func Length(b []byte) (n int, e api.Errno) {
	defer func() { e = reasonOf(recover()) }()
	r := reader{left: b}
	return r.number(), api.OK
}

// Open tells the bytes that a block makes, if these are at most so many.
func Open(b []byte, most int) (made []byte, e api.Errno) {
	if most < 0 || most > api.MaxBytes {
		return nil, api.ErrArg
	}
	defer func() { e = reasonOf(recover()) }()
	r := reader{left: b}
	return r.block(most), api.OK
}

// reader takes parts off what is left of a block, and keeps what they made.
// That grows with what is made, not with what is said to be.
type reader struct {
	left []byte
	made []byte
	size int
}

func (r *reader) block(most int) []byte {
	r.size = r.number()
	if r.size > most {
		panic(refusal{api.ErrLong})
	}
	for len(r.made) < r.size {
		r.part()
	}
	if len(r.left) > 0 {
		panic(refusal{api.ErrExtra})
	}
	return r.made
}

// take takes so many bytes.
func (r *reader) take(size int) []byte {
	if size > len(r.left) {
		panic(refusal{api.ErrShort})
	}
	b := r.left[:size]
	r.left = r.left[size:]
	return b
}

// number takes the number ahead of the parts. It gives up with the first byte
// behind which no number's bytes can follow.
func (r *reader) number() int {
	n := 0
	for shift := 0; ; shift += 7 {
		c := int(r.take(1)[0])
		n += c % more << shift
		least := n // of the numbers that begin so
		if c >= more {
			least += more << shift
		}
		if least > mostNumber || c == 0 && shift > 0 {
			panic(refusal{api.ErrForm})
		}
		if c < more {
			return n
		}
	}
}

// low takes a number of so many bytes, the lowest ahead.
func (r *reader) low(size int) int {
	n := 0
	for i, c := range r.take(size) {
		n |= int(c) << (8 * i)
	}
	return n
}

func (r *reader) part() {
	begin := int(r.take(1)[0])
	n, width := begin/kinds, 2
	switch begin % kinds {
	case bytesPart:
		r.bytes(n)
	case nearPart:
		r.copy(n%nearSizes+nearLeast, n/nearSizes*nearStep+r.low(1))
	case farPart:
		width = 4
		fallthrough
	case middlePart:
		r.copy(n+1, r.low(width))
	}
}

// bytes makes the bytes that follow.
func (r *reader) bytes(n int) {
	if n >= longBytes {
		n = r.low(n - longBytes + 1)
	}
	r.mustBeLeft(n + 1)
	r.made = append(r.made, r.take(n+1)...)
}

// mustBeLeft gives up, if fewer bytes are left to be made.
func (r *reader) mustBeLeft(size int) {
	if size > r.size-len(r.made) {
		panic(refusal{api.ErrForm})
	}
}

// copy makes so many bytes of those from so far back on: round by round, as what
// it makes itself is copied too.
func (r *reader) copy(size, back int) {
	if back == 0 || back > len(r.made) {
		panic(refusal{api.ErrForm})
	}
	r.mustBeLeft(size)
	until := len(r.made) + size
rounds:
	for {
		for _, c := range r.made[len(r.made)-back:] {
			if len(r.made) == until {
				break rounds
			}
			r.made = append(r.made, c)
		}
	}
}
