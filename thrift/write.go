package thrift

import "marquetry/api"

const (
	more      = 128 // the bit of a number's bytes but the last one
	half      = 16  // what the higher half of a byte counts by
	long      = 15  // what stands for a list's length from here on
	mostStep  = 15  // from ID to ID, as far as half a byte tells it
	trueByte  = 1
	falseByte = 2
)

// Write tells the bytes of a structure.
func Write(v api.Thrift) ([]byte, api.Errno) {
	if !isStructure(v) {
		return nil, api.ErrArg
	}
	var w writer
	w.value(v)
	return w.bytes, api.OK
}

// writer lays values, which must be such that may be, behind one another.
type writer struct {
	bytes []byte
}

func (w *writer) lay(c byte) { w.bytes = append(w.bytes, c) }

func (w *writer) layHalves(high, low int) { w.lay(byte(high*half + low)) }

func (w *writer) value(v api.Thrift) {
	switch v.Kind {
	case api.ThriftBool:
		w.lay(byteOfTruth(v))
	case api.ThriftByte:
		w.lay(byte(v.Int))
	case api.ThriftInt16, api.ThriftInt32, api.ThriftInt64:
		w.signed(v.Int)
	case api.ThriftDouble:
		w.double(uint64(v.Int))
	case api.ThriftBytes:
		w.number(uint64(len(v.Text)))
		w.bytes = append(w.bytes, v.Text...)
	case api.ThriftList:
		w.list(v)
	case api.ThriftMap:
		w.dictionary(v)
	case api.ThriftStruct:
		w.structure(v)
	}
}

func (w *writer) number(n uint64) {
	for n >= more {
		w.lay(byte(n) | more)
		n >>= 7
	}
	w.lay(byte(n))
}

func (w *writer) signed(n int64) { w.number(uint64(n<<1) ^ uint64(n>>63)) }

func (w *writer) double(n uint64) {
	for range 8 {
		w.lay(byte(n))
		n >>= 8
	}
}

func (w *writer) list(v api.Thrift) {
	if count := len(v.List); count < long {
		w.layHalves(count, int(v.Elem))
	} else {
		w.layHalves(long, int(v.Elem))
		w.number(uint64(count))
	}
	w.values(v.List)
}

func (w *writer) dictionary(v api.Thrift) {
	w.number(uint64(len(v.List) / 2))
	if len(v.List) == 0 {
		return
	}
	w.layHalves(int(v.Key), int(v.Elem))
	w.values(v.List)
}

func (w *writer) values(l []api.Thrift) {
	for _, v := range l {
		w.value(v)
	}
}

func (w *writer) structure(v api.Thrift) {
	ahead := 0
	for i, part := range v.List {
		w.field(ahead, v.IDs[i], part)
		ahead = v.IDs[i]
	}
	w.lay(0)
}

func (w *writer) field(ahead, id int, v api.Thrift) {
	kind := int(v.Kind)
	if v.Kind == api.ThriftBool {
		kind = int(byteOfTruth(v))
	}
	if step := id - ahead; step <= mostStep {
		w.layHalves(step, kind)
	} else {
		w.layHalves(0, kind)
		w.signed(int64(id))
	}
	if v.Kind != api.ThriftBool {
		w.value(v)
	}
}

func byteOfTruth(v api.Thrift) byte {
	if v.Int == 1 {
		return trueByte
	}
	return falseByte
}
