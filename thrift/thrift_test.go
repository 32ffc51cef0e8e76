package thrift_test

import (
	"math"
	"math/rand/v2"
	"slices"
	"strings"
	"testing"

	"marquetry/api"
	"marquetry/thrift"
)

const (
	tBool   = api.ThriftBool
	tByte   = api.ThriftByte
	tInt16  = api.ThriftInt16
	tInt32  = api.ThriftInt32
	tInt64  = api.ThriftInt64
	tDouble = api.ThriftDouble
	tBytes  = api.ThriftBytes
	tList   = api.ThriftList
	tMap    = api.ThriftMap
	tStruct = api.ThriftStruct
)

func kinds() []api.ThriftKind {
	return []api.ThriftKind{tBool, tByte, tInt16, tInt32, tInt64, tDouble, tBytes, tList, tMap, tStruct}
}

func notKinds() []api.ThriftKind {
	return []api.ThriftKind{0, 2, 10, 13, 14, 15, 16, 17, 28, -1, -8, 256 + 5, math.MaxInt, math.MinInt}
}

func num(kind api.ThriftKind, n int64) api.Thrift { return api.Thrift{Kind: kind, Int: n} }

func text(s string) api.Thrift { return api.Thrift{Kind: tBytes, Text: s} }

func list(elem api.ThriftKind, l ...api.Thrift) api.Thrift {
	return api.Thrift{Kind: tList, Elem: elem, List: l}
}

func pairs(key, elem api.ThriftKind, l ...api.Thrift) api.Thrift {
	return api.Thrift{Kind: tMap, Key: key, Elem: elem, List: l}
}

// structure has the IDs 1, 2 and so on.
func structure(l ...api.Thrift) api.Thrift {
	v := api.Thrift{Kind: tStruct, List: l}
	for i := range l {
		v.IDs = append(v.IDs, i+1)
	}
	return v
}

func withIDs(v api.Thrift, ids ...int) api.Thrift {
	v.IDs = ids
	return v
}

func times(n int, v api.Thrift) []api.Thrift {
	l := make([]api.Thrift, n)
	for i := range l {
		l[i] = v
	}
	return l
}

// zero is the least there is of a kind.
func zero(kind api.ThriftKind) api.Thrift {
	if kind == tList {
		return list(tBool)
	}
	return api.Thrift{Kind: kind}
}

// nest is a value in so many others, of these kinds by turns, the outmost first.
func nest(deep int, v api.Thrift, by ...api.ThriftKind) api.Thrift {
	for i := deep - 1; i >= 0; i-- {
		switch by[i%len(by)] {
		case tList:
			v = list(v.Kind, v)
		case tMap:
			if i%2 == 0 {
				v = pairs(v.Kind, tBool, v, num(tBool, 1))
			} else {
				v = pairs(tBool, v.Kind, num(tBool, 0), v)
			}
		default:
			v = structure(v)
		}
	}
	return v
}

func nestings() [][]api.ThriftKind {
	return [][]api.ThriftKind{{tStruct}, {tStruct, tList}, {tStruct, tMap}, {tStruct, tList, tMap}, {tStruct, tMap, tMap, tList, tList}}
}

// endless holds itself.
func endless(kind api.ThriftKind) api.Thrift {
	l := make([]api.Thrift, 2)
	v := api.Thrift{Kind: kind, List: l}
	switch kind {
	case tList:
		v.Elem = tList
	case tMap:
		v.Key, v.Elem = tMap, tMap
	default:
		v.IDs = []int{1, 2}
	}
	l[0], l[1] = v, v
	return v
}

// made is a random value of a kind, with at most so many in one another.
func made(r *rand.Rand, kind api.ThriftKind, room int) api.Thrift {
	v := api.Thrift{Kind: kind}
	switch kind {
	case tBool:
		v.Int = int64(r.IntN(2))
	case tByte:
		v.Int = int64(int8(r.Uint32()))
	case tInt16:
		v.Int = int64(int16(r.Uint32()) >> r.IntN(16))
	case tInt32:
		v.Int = int64(int32(r.Uint32()) >> r.IntN(32))
	case tInt64:
		v.Int = int64(r.Uint64()) >> r.IntN(64)
	case tDouble:
		v.Int = int64(r.Uint64())
	case tBytes:
		v.Text = madeText(r)
	case tList:
		v.Elem = madeKind(r, room-1)
		v.List = madeParts(r, madeCount(r, v.Elem), room-1, v.Elem)
	case tMap:
		if count := r.IntN(4); count > 0 {
			v.Key, v.Elem = madeKind(r, room-1), madeKind(r, room-1)
			v.List = madeParts(r, 2*count, room-1, v.Key, v.Elem)
		}
	case tStruct:
		for id := 1 + r.IntN(20); r.IntN(4) > 0 && id < 1<<15; id += 1 << r.IntN(15) {
			v.IDs = append(v.IDs, id)
			v.List = append(v.List, made(r, madeKind(r, room-1), room-1))
		}
	}
	return v
}

func madeKind(r *rand.Rand, room int) api.ThriftKind {
	l := kinds()
	if room == 0 {
		l = l[:7]
	}
	return l[r.IntN(len(l))]
}

func madeCount(r *rand.Rand, kind api.ThriftKind) int {
	if kind == tList || kind == tMap || kind == tStruct {
		return r.IntN(3)
	}
	return r.IntN(18)
}

func madeParts(r *rand.Rand, count, room int, by ...api.ThriftKind) []api.Thrift {
	var l []api.Thrift
	for i := range count {
		l = append(l, made(r, by[i%len(by)], room))
	}
	return l
}

func madeText(r *rand.Rand) string {
	b := make([]byte, []int{0, 1, 5, 127, 128, 200}[r.IntN(6)])
	for i := range b {
		b[i] = byte(r.IntN(256))
	}
	return string(b)
}

// mayBe are values that may be, with their sizes.
func mayBe() []struct {
	v            api.Thrift
	values, deep int
} {
	type row = struct {
		v            api.Thrift
		values, deep int
	}
	l := []row{
		{num(tBool, 0), 1, 0},
		{num(tBool, 1), 1, 0},
		{num(tByte, math.MinInt8), 1, 0},
		{num(tByte, math.MaxInt8), 1, 0},
		{num(tInt16, math.MinInt16), 1, 0},
		{num(tInt16, math.MaxInt16), 1, 0},
		{num(tInt32, math.MinInt32), 1, 0},
		{num(tInt32, math.MaxInt32), 1, 0},
		{num(tInt64, math.MinInt64), 1, 0},
		{num(tInt64, math.MaxInt64), 1, 0},
		{num(tDouble, math.MinInt64), 1, 0},
		{num(tDouble, -1), 1, 0},
		{text("ab\xff"), 1, 0},
		{text(strings.Repeat("a", api.MaxBytes)), 1, 0},
		{list(tInt32, times(api.MaxCount, num(tInt32, 1))...), api.MaxCount + 1, 1},
		{pairs(tBool, tByte, slices.Concat(times(1, num(tBool, 1)), times(1, num(tByte, 1)))...), 3, 1},
		{pairs(tByte, tByte, times(2*api.MaxCount, num(tByte, 1))...), 2*api.MaxCount + 1, 1},
		{structure(times(3, num(tByte, 1))...), 4, 1},
		{structure(times(32767, num(tByte, 1))...), 32768, 1},
		{withIDs(structure(text("")), 32767), 2, 1},
		{withIDs(structure(text(""), num(tBool, 0)), 1, 32767), 3, 1},
		{structure(list(tList, list(tStruct)), pairs(0, 0)), 4, 3},
		{structure(list(tList, list(tList, list(tBool))), num(tBool, 1)), 5, 4},
		{structure(structure(structure()), num(tBool, 1), structure()), 5, 3},
		{api.Thrift{Kind: tStruct, IDs: []int{}, List: []api.Thrift{}}, 1, 1},
		{api.Thrift{Kind: tMap, IDs: []int{}, List: []api.Thrift{}}, 1, 1},
		{api.Thrift{Kind: tInt32, IDs: []int{}, List: []api.Thrift{}}, 1, 0},
		{pairs(tMap, tMap, pairs(0, 0), pairs(0, 0)), 3, 2},
		// Keys may be alike.
		{pairs(tBytes, tBytes, times(4, text("k"))...), 5, 1},
	}
	for _, kind := range kinds() {
		deep := 0
		if kind == tList || kind == tMap || kind == tStruct {
			deep = 1
		}
		l = append(l, row{zero(kind), 1, deep}, row{list(kind), 1, 1}, row{list(kind, zero(kind)), 2, 1 + deep},
			row{pairs(kind, kind, zero(kind), zero(kind)), 3, 1 + deep}, row{structure(zero(kind)), 2, 1 + deep})
	}
	for _, by := range nestings() {
		if !slices.Contains(by, tMap) {
			l = append(l, row{nest(32, num(tBool, 1), by...), 33, 32}, row{nest(31, list(tStruct), by...), 32, 32})
		}
	}
	return append(l, row{nest(32, text("a"), tMap), 65, 32}, row{nest(31, list(tMap), tMap), 63, 32})
}

// mayNotBe are values that may not be, each for one reason.
func mayNotBe() []api.Thrift {
	one := num(tInt32, 1)
	l := []api.Thrift{
		{},
		num(tBool, 2), num(tBool, -1), num(tBool, math.MinInt64), num(tBool, 256),
		num(tByte, 128), num(tByte, -129), num(tByte, 255),
		num(tInt16, 1<<15), num(tInt16, -1<<15-1), num(tInt16, math.MaxInt64),
		num(tInt32, 1<<31), num(tInt32, -1<<31-1), num(tInt32, math.MinInt64),
		text(strings.Repeat("a", api.MaxBytes+1)),
		list(0), list(tInt32, num(tInt64, 1)), list(tInt32, one, one, text("")), list(0, one),
		list(tInt32, times(api.MaxCount+1, one)...),
		list(tBool, num(tBool, 2)),
		pairs(tInt32, tInt32), pairs(tInt32, 0), pairs(0, tInt32),
		pairs(0, tInt32, one, one), pairs(tInt32, 0, one, one), pairs(0, 0, one, one),
		pairs(tInt32, tInt32, one), pairs(tInt32, tInt32, one, one, one),
		pairs(tInt32, tBytes, one, one), pairs(tInt32, tBytes, text(""), one), pairs(tInt32, tBytes, one, text(""), text(""), one),
		pairs(tInt32, tInt32, times(2*api.MaxCount+2, one)...),
		pairs(tBool, tInt32, num(tBool, 3), one), pairs(tInt32, tBool, one, num(tBool, 3)),
		withIDs(structure(one)), withIDs(structure(), 1), withIDs(structure(one), 1, 2), withIDs(structure(one, one), 1),
		withIDs(structure(one), 0), withIDs(structure(one), -1), withIDs(structure(one), 32768),
		withIDs(structure(one), math.MaxInt), withIDs(structure(one), math.MinInt),
		withIDs(structure(one, one), 2, 2), withIDs(structure(one, one), 3, 2), withIDs(structure(one, one), 1, 32768),
		withIDs(structure(one, one), 0, 1), withIDs(structure(one, one, one), 1, 3, 2),
		structure(num(tByte, 128)), structure(one, api.Thrift{}), structure(structure(withIDs(structure(one), 0))),
		endless(tList), endless(tMap), endless(tStruct),
	}
	for _, kind := range notKinds() {
		l = append(l, api.Thrift{Kind: kind}, api.Thrift{Kind: kind, Int: 1}, list(kind), list(kind, api.Thrift{Kind: kind}), structure(api.Thrift{Kind: kind}),
			pairs(kind, tInt32, api.Thrift{Kind: kind}, one), pairs(tInt32, kind, one, api.Thrift{Kind: kind}))
	}
	for _, by := range nestings() {
		l = append(l, nest(33, num(tBool, 1), by...), nest(32, list(tBool), by...), nest(32, pairs(0, 0), by...), nest(32, structure(), by...), nest(1<<16, one, by...))
	}
	for _, kind := range kinds() {
		l = append(l, withUnused(zero(kind))...)
	}
	return l
}

// withUnused are values like v, each with one thing besides that its kind does not use.
func withUnused(v api.Thrift) []api.Thrift {
	var l []api.Thrift
	with := func(uses []api.ThriftKind, change func(v *api.Thrift)) {
		if !slices.Contains(uses, v.Kind) {
			x := v
			change(&x)
			l = append(l, x)
		}
	}
	with([]api.ThriftKind{tMap}, func(v *api.Thrift) { v.Key = tBool })
	with([]api.ThriftKind{tMap}, func(v *api.Thrift) { v.Key = -1 })
	with([]api.ThriftKind{tMap, tList}, func(v *api.Thrift) { v.Elem = tBool })
	with([]api.ThriftKind{tBool, tByte, tInt16, tInt32, tInt64, tDouble}, func(v *api.Thrift) { v.Int = 1 })
	with([]api.ThriftKind{tBytes}, func(v *api.Thrift) { v.Text = "a" })
	with([]api.ThriftKind{tStruct}, func(v *api.Thrift) { v.IDs = []int{1} })
	with([]api.ThriftKind{tStruct}, func(v *api.Thrift) { v.IDs = []int{0} })
	with([]api.ThriftKind{tList, tMap, tStruct}, func(v *api.Thrift) { v.List = []api.Thrift{num(tBool, 0)} })
	with([]api.ThriftKind{tList, tMap, tStruct}, func(v *api.Thrift) { v.List = []api.Thrift{{}} })
	return l
}

// short tells a value so far that a failed test is still read with ease.
func short(v api.Thrift) api.Thrift {
	v.Text = v.Text[:min(len(v.Text), 20)]
	v.IDs = v.IDs[:min(len(v.IDs), 5)]
	v.List = slices.Clone(v.List[:min(len(v.List), 3)])
	for i := range v.List {
		v.List[i].List = nil
	}
	return v
}

// P3.1
func TestCheckAndSize(t *testing.T) {
	for _, x := range mayBe() {
		if e := thrift.Check(x.v); e != api.OK {
			t.Errorf("Check(%v): %v", short(x.v), e)
		}
		if values, deep := thrift.Size(x.v); values != x.values || deep != x.deep {
			t.Errorf("Size(%v): %d %d, not %d %d", short(x.v), values, deep, x.values, x.deep)
		}
	}
}

// P3.1
func TestCheckAndSizeOfWhatMayNotBe(t *testing.T) {
	for _, v := range mayNotBe() {
		if e := thrift.Check(v); e != api.ErrArg {
			t.Errorf("Check(%v): %v", short(v), e)
		}
		if values, deep := thrift.Size(v); values != 0 || deep != 0 {
			t.Errorf("Size(%v): %d %d", short(v), values, deep)
		}
	}
}

// P3.4: values that differ in one field, or in the order of a list.
func unlike() []api.Thrift {
	one, two := num(tInt32, 1), num(tInt32, 2)
	return []api.Thrift{
		{}, one, two, num(tInt64, 1), num(tInt64, 2), num(tInt32, 1+1<<32), num(tInt32, -1),
		text(""), text("a"), text("b"), text("ab"), text("a\x00"),
		list(tInt32), list(tInt64), list(tInt32, one), list(tInt32, two), list(tInt32, one, two), list(tInt32, two, one), list(tInt32, one, one),
		list(tList, list(tInt32, one, two)), list(tList, list(tInt32, two, one)), list(tList, list(tInt32, one), list(tInt32, two)),
		pairs(0, 0), pairs(tInt32, tInt32, one, two), pairs(tInt32, tInt32, two, one), pairs(tInt32, 0), pairs(0, tInt32), pairs(tInt32, tInt32, one, two, one, two),
		structure(), structure(one), structure(two), withIDs(structure(one), 2), withIDs(structure(one, two), 1, 3), structure(one, two), structure(two, one),
		withIDs(structure(one, two), 2, 1), withIDs(structure(one), 1, 2), withIDs(structure(), 1),
		num(tDouble, math.MinInt64), num(tDouble, 0), num(tDouble, 0x7ff8000000000000), num(tDouble, 0x7ff8000000000001),
		{Kind: tInt32, Key: 1}, {Kind: tInt32, Elem: 1}, {Kind: tInt32, Text: "a"}, {Kind: tInt32, IDs: []int{0}}, {Kind: tInt32, List: []api.Thrift{{}}}, {Int: 1}, {Kind: -1},
		structure(one, text("a"), list(tBool, num(tBool, 1))), structure(one, text("a"), list(tBool, num(tBool, 0))),
	}
}

// P3.4
func TestSame(t *testing.T) {
	l, again := unlike(), unlike()
	for i, a := range l {
		for j, b := range again {
			if got := thrift.Same(a, b); got != (i == j) {
				t.Errorf("Same(%v, %v): %v", a, b, got)
			}
		}
	}
}

// P3.4: nil and empty mean the same, inside other things too; depth is no bound here.
func TestSameOfNothingAndOfManyInOneAnother(t *testing.T) {
	empty := api.Thrift{Kind: tStruct, IDs: []int{}, List: []api.Thrift{}}
	if !thrift.Same(empty, structure()) || !thrift.Same(structure(), empty) || !thrift.Same(list(tStruct, empty), list(tStruct, structure())) {
		t.Error("empty is not as nil")
	}
	deep, other := nest(1<<16, text("a"), tStruct, tList), nest(1<<16, text("b"), tStruct, tList)
	if !thrift.Same(deep, nest(1<<16, text("a"), tStruct, tList)) || thrift.Same(deep, other) {
		t.Error("many in one another")
	}
}

// P3.4
func TestField(t *testing.T) {
	inner := structure(list(tBytes, text("x")), num(tBool, 1))
	v := withIDs(structure(num(tInt32, 7), inner, text("ab"), num(tBool, 0), list(tByte)), 1, 2, 20, 300, 32767)
	for i, id := range v.IDs {
		if got, ok := thrift.Field(v, id); !ok || !thrift.Same(got, v.List[i]) {
			t.Errorf("Field %d: %v %v", id, got, ok)
		}
	}
	for _, id := range []int{0, -1, 3, 19, 21, 299, 301, 32766, 32768, math.MinInt, math.MaxInt} {
		if got, ok := thrift.Field(v, id); ok || !thrift.Same(got, api.Thrift{}) {
			t.Errorf("Field %d: %v %v", id, got, ok)
		}
	}
}

// P3.4
func TestFieldOfWhatIsNoStructure(t *testing.T) {
	for _, x := range mayBe() {
		if x.v.Kind == tStruct {
			continue
		}
		if got, ok := thrift.Field(x.v, 1); ok || !thrift.Same(got, api.Thrift{}) {
			t.Errorf("Field of %v: %v %v", short(x.v), got, ok)
		}
	}
	for _, v := range mayNotBe() {
		for _, id := range []int{-1, 0, 1, 2, 32768} {
			if got, ok := thrift.Field(v, id); ok || !thrift.Same(got, api.Thrift{}) {
				t.Errorf("Field %d of %v: %v %v", id, short(v), got, ok)
			}
		}
	}
	// The fault may lie in another field than the one that is asked for.
	if got, ok := thrift.Field(structure(num(tBool, 1), num(tBool, 2)), 1); ok || !thrift.Same(got, api.Thrift{}) {
		t.Errorf("%v %v", got, ok)
	}
}

// P3.4: an answer shares no list with what was handed in, nor within itself.
func TestFieldIsNew(t *testing.T) {
	shared := []api.Thrift{num(tInt32, 5), num(tInt32, 6)}
	ids := []int{1, 2}
	part := api.Thrift{Kind: tStruct, IDs: ids, List: shared}
	v := structure(list(tStruct, part, part), text("a"))
	want := structure(list(tStruct, structure(shared[0], shared[1]), structure(shared[0], shared[1])), text("a"))
	got, ok := thrift.Field(v, 1)
	if !ok {
		t.Fatal("not there")
	}
	again, _ := thrift.Field(v, 1)
	got.List[0].IDs[1] = 9
	got.List[0].List[1].Int = 77
	if !thrift.Same(got.List[1], want.List[0].List[1]) {
		t.Errorf("shared within the answer: %v", got)
	}
	got.List[1] = api.Thrift{}
	if !thrift.Same(v, want) {
		t.Errorf("shared with what was handed in: %v", v)
	}
	if !thrift.Same(again, want.List[0]) {
		t.Errorf("shared with another answer: %v", again)
	}
}
