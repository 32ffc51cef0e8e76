package gzip

import (
	"marquetry/api"
	"marquetry/flate"
)

// Open tells the bytes that a frame makes, if they are at most so many.
func Open(b []byte, most int) (made []byte, e api.Errno) {
	if most < 0 || most > api.MaxBytes {
		return nil, api.ErrArg
	}
	defer func() { e = reasonOf(recover()) }()
	r := reader{rest{b}, most}
	r.head()
	r.take(idleSize)
	out := r.stream()
	r.tail(out)
	r.end()
	return out, api.OK
}

// refusal is what is panicked with where reading is given up.
type refusal struct {
	why api.Errno
}

// reasonOf is why reading was given up, by what was recovered.
func reasonOf(recovered any) api.Errno {
	switch r := recovered.(type) {
	case nil:
		return api.OK
	case refusal:
		return r.why
	}
	panic(recovered)
}

// rest is what is left of a frame's bytes.
type rest struct {
	bytes []byte
}

func (l *rest) take(size int) []byte {
	if len(l.bytes) < size {
		panic(refusal{api.ErrShort})
	}
	taken := l.bytes[:size]
	l.bytes = l.bytes[size:]
	return taken
}

// reader takes a frame part by part.
type reader struct {
	rest
	most int // bytes that the stream may make
}

// head takes the frame's first bytes. A byte that is another one tells ahead of
// one that is not there: so what is missing is held to be right at first.
func (r *reader) head() {
	found := head()
	copy(found[:], r.bytes)
	if found != head() {
		panic(refusal{api.ErrForm})
	}
	r.take(headSize)
}

// stream takes the stream, and tells what it makes.
func (r *reader) stream() []byte {
	made, size, e := flate.Inflate(r.bytes, r.most)
	if e != api.OK {
		panic(refusal{e})
	}
	r.take(size)
	return made
}

// tail takes what stands behind the stream that made the bytes.
func (r *reader) tail(made []byte) {
	if [tailSize]byte(r.take(tailSize)) != tail(made) {
		panic(refusal{api.ErrTail})
	}
}

func (r *reader) end() {
	if len(r.bytes) > 0 {
		panic(refusal{api.ErrExtra})
	}
}
