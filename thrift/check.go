package thrift

import "marquetry/api"

const mostID = 32767

func isStructure(v api.Thrift) bool {
	return v.Kind == api.ThriftStruct && Check(v) == api.OK
}

// mayBe tells whether a value may stand where there is room for so many lists,
// maps and structures in one another. The room is asked ahead of the parts, so
// that values without an end are left too.
func mayBe(v api.Thrift, room int) bool {
	if nests(v.Kind) {
		room--
	}
	if room < 0 || !isInOrder(v) {
		return false
	}
	for _, part := range v.List {
		if !mayBe(part, room) {
			return false
		}
	}
	return true
}

// isInOrder tells whether a value may be, as far as its parts' Kinds tell.
func isInOrder(v api.Thrift) bool {
	if !Same(unused(v), api.Thrift{}) {
		return false
	}
	switch v.Kind {
	case api.ThriftBool:
		return v.Int == 0 || v.Int == 1
	case api.ThriftByte, api.ThriftInt16, api.ThriftInt32, api.ThriftInt64, api.ThriftDouble:
		return fits(v.Int, bitsOf(v.Kind))
	case api.ThriftBytes:
		return len(v.Text) <= api.MaxBytes
	case api.ThriftList:
		return len(v.List) <= api.MaxCount && areOf(v.List, v.Elem)
	case api.ThriftMap:
		return isMap(v)
	case api.ThriftStruct:
		return len(v.List) == len(v.IDs) && areRising(v.IDs)
	}
	return false
}

// unused is a value without what its Kind uses.
func unused(v api.Thrift) api.Thrift {
	switch v.Kind {
	case api.ThriftBytes:
		v.Text = ""
	case api.ThriftList:
		v.Elem, v.List = 0, nil
	case api.ThriftMap:
		v.Key, v.Elem, v.List = 0, 0, nil
	case api.ThriftStruct:
		v.IDs, v.List = nil, nil
	default:
		v.Int = 0
	}
	v.Kind = 0
	return v
}

func isMap(v api.Thrift) bool {
	if len(v.List) == 0 {
		return v.Key == 0 && v.Elem == 0
	}
	return len(v.List)%2 == 0 && len(v.List)/2 <= api.MaxCount && areOf(v.List, v.Key, v.Elem)
}

// areOf tells whether values are of these Kinds by turns, and the Kinds are some.
func areOf(l []api.Thrift, kinds ...api.ThriftKind) bool {
	for _, kind := range kinds {
		if !isKind(kind) {
			return false
		}
	}
	for i, v := range l {
		if v.Kind != kinds[i%len(kinds)] {
			return false
		}
	}
	return true
}

func areRising(ids []int) bool {
	ahead := 0
	for _, id := range ids {
		if id <= ahead || id > mostID {
			return false
		}
		ahead = id
	}
	return true
}

func fits(n int64, bits int) bool { return n>>(bits-1) == n>>63 }

// bitsOf is how many bits a number of a Kind has, 0 of what is no number.
func bitsOf(kind api.ThriftKind) int {
	switch kind {
	case api.ThriftByte:
		return 8
	case api.ThriftInt16:
		return 16
	case api.ThriftInt32:
		return 32
	case api.ThriftInt64, api.ThriftDouble:
		return 64
	}
	return 0
}

func isKind(kind api.ThriftKind) bool {
	return kind == api.ThriftBool || kind == api.ThriftBytes || bitsOf(kind) > 0 || nests(kind)
}

func nests(kind api.ThriftKind) bool {
	return kind == api.ThriftList || kind == api.ThriftMap || kind == api.ThriftStruct
}
