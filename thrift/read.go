package thrift

import (
	"math"

	"marquetry/api"
)

// Why reading is given up. It is given up with the first byte behind which no
// writer's bytes can follow: so bytes that end too early are always the
// beginning of some structure's.
type (
	endsEarly struct{}
	notLaid   struct{}
)

// Read tells the structure whose bytes b begins with, and how many these are.
func Read(b []byte) (v api.Thrift, size int, e api.Errno) {
	defer func() {
		switch why := recover().(type) {
		case nil:
		case endsEarly:
			e = api.ErrShort
		case notLaid:
			e = api.ErrForm
		default:
			panic(why)
		}
	}()
	r := newReader(b)
	v = r.way(api.ThriftStruct)()
	return v, len(b) - len(r.bytes), api.OK
}

// left is what is left of the bytes.
type left struct {
	bytes []byte
}

func (l *left) peek() byte {
	if len(l.bytes) == 0 {
		panic(endsEarly{})
	}
	return l.bytes[0]
}

func (l *left) take() byte {
	c := l.peek()
	l.bytes = l.bytes[1:]
	return c
}

func (l *left) takeHalves() (high, low int) {
	c := int(l.take())
	return c / half, c % half
}

func (l *left) takeText(size int) string {
	if size > len(l.bytes) {
		panic(endsEarly{})
	}
	text := string(l.bytes[:size])
	l.bytes = l.bytes[size:]
	return text
}

// takeNumber takes a number from least to most.
func (l *left) takeNumber(least, most uint64) uint64 {
	n := uint64(0)
	for shift := 0; ; shift += 7 {
		c := l.take()
		digit := uint64(c &^ more)
		if digit > (most-n)>>shift {
			panic(notLaid{})
		}
		n |= digit << shift
		if c >= more {
			mustGoOn(n, shift+7, least, most)
			continue
		}
		if n < least || digit == 0 && shift > 0 {
			panic(notLaid{})
		}
		return n
	}
}

// mustGoOn gives up, if no higher digits make such a number of n: the next one
// counts by 1 << shift, and not all of them may be 0.
func mustGoOn(n uint64, shift int, least, most uint64) {
	greatest := (most - n) >> shift
	if greatest == 0 || n+greatest<<shift < least {
		panic(notLaid{})
	}
}

// reader takes values off what is left.
type reader struct {
	left
	room int // lists, maps and structures that may still be nested
	ways map[api.ThriftKind]func() api.Thrift
}

func newReader(b []byte) *reader {
	r := &reader{left: left{b}, room: api.MaxDepth}
	r.ways = waysOf(r)
	return r
}

// waysOf is how a value of each Kind is taken.
func waysOf(r *reader) map[api.ThriftKind]func() api.Thrift {
	return map[api.ThriftKind]func() api.Thrift{
		api.ThriftBool:   r.truth,
		api.ThriftByte:   r.small,
		api.ThriftInt16:  r.signed(api.ThriftInt16),
		api.ThriftInt32:  r.signed(api.ThriftInt32),
		api.ThriftInt64:  r.signed(api.ThriftInt64),
		api.ThriftDouble: r.double,
		api.ThriftBytes:  r.text,
		api.ThriftList:   r.nested(r.list),
		api.ThriftMap:    r.nested(r.dictionary),
		api.ThriftStruct: r.nested(r.structure),
	}
}

// way is how a value of a Kind is taken that must follow.
func (r *reader) way(kind api.ThriftKind) func() api.Thrift {
	read, known := r.ways[kind]
	if !known || nests(kind) && r.room == 0 {
		panic(notLaid{})
	}
	return read
}

func (r *reader) nested(read func() api.Thrift) func() api.Thrift {
	return func() api.Thrift {
		r.room--
		v := read()
		r.room++
		return v
	}
}

func (r *reader) truth() api.Thrift { return truthOf(r.take()) }

func truthOf(c byte) api.Thrift {
	switch c {
	case trueByte:
		return api.Thrift{Kind: api.ThriftBool, Int: 1}
	case falseByte:
		return api.Thrift{Kind: api.ThriftBool}
	}
	panic(notLaid{})
}

func (r *reader) small() api.Thrift {
	return api.Thrift{Kind: api.ThriftByte, Int: int64(int8(r.take()))}
}

func (r *reader) signed(kind api.ThriftKind) func() api.Thrift {
	most := uint64(math.MaxUint64) >> (64 - bitsOf(kind))
	return func() api.Thrift {
		n := r.takeNumber(0, most)
		return api.Thrift{Kind: kind, Int: int64(n>>1) ^ -int64(n&1)}
	}
}

func (r *reader) double() api.Thrift {
	n := uint64(0)
	for range 8 {
		n >>= 8
		n |= uint64(r.take()) << 56
	}
	return api.Thrift{Kind: api.ThriftDouble, Int: int64(n)}
}

func (r *reader) text() api.Thrift {
	size := r.takeNumber(0, api.MaxBytes)
	return api.Thrift{Kind: api.ThriftBytes, Text: r.takeText(int(size))}
}

func (r *reader) list() api.Thrift {
	count, kind := r.takeHalves()
	v := api.Thrift{Kind: api.ThriftList, Elem: api.ThriftKind(kind)}
	if count == 0 && isKind(v.Elem) { // nothing follows, so it needs no room
		return v
	}
	read := r.way(v.Elem)
	if count == long {
		count = int(r.takeNumber(long, api.MaxCount))
	}
	v.List = takeRounds(count, read)
	return v
}

func (r *reader) dictionary() api.Thrift {
	v := api.Thrift{Kind: api.ThriftMap}
	count := int(r.takeNumber(0, api.MaxCount))
	if count == 0 {
		return v
	}
	key, elem := r.takeHalves()
	v.Key, v.Elem = api.ThriftKind(key), api.ThriftKind(elem)
	v.List = takeRounds(count, r.way(v.Key), r.way(v.Elem))
	return v
}

// takeRounds takes so many rounds of values, in each one of each way. The list
// grows with what is there, not with what is said to be.
func takeRounds[T any](rounds int, ways ...func() T) []T {
	var l []T
	for range rounds {
		for _, read := range ways {
			l = append(l, read())
		}
	}
	return l
}

func (r *reader) structure() api.Thrift {
	v := api.Thrift{Kind: api.ThriftStruct}
	id := 0
	for {
		step, kind := r.takeHalves()
		if step == 0 && kind == 0 {
			return v
		}
		read := r.fieldWay(kind)
		id = r.fieldID(id, step)
		v.IDs = append(v.IDs, id)
		v.List = append(v.List, read())
	}
}

// fieldWay is how a field's value is taken; a truth stands in its Kind.
func (r *reader) fieldWay(kind int) func() api.Thrift {
	if kind == trueByte || kind == falseByte {
		return func() api.Thrift { return truthOf(byte(kind)) }
	}
	return r.way(api.ThriftKind(kind))
}

func (r *reader) fieldID(ahead, step int) int {
	if step == 0 {
		return r.farID(ahead + mostStep + 1)
	}
	if ahead+step > mostID {
		panic(notLaid{})
	}
	return ahead + step
}

func (r *reader) farID(least int) int {
	// An odd number is told of an ID below 0, whatever follows its first byte.
	if least > mostID || r.peek()%2 == 1 {
		panic(notLaid{})
	}
	return int(r.takeNumber(2*uint64(least), 2*mostID) / 2)
}
