package datum_test

import (
	"fmt"
	"math"
	"slices"
	"strings"
	"testing"

	"marquetry/api"
	"marquetry/datum"
)

// plainKinds are those whose types have no Size.
var plainKinds = []api.Kind{0, 1, 2, 4, 5, 6}

// noKinds are numbers of none, also such as are a kind's in fewer bits.
func noKinds() []api.Kind {
	return []api.Kind{-1, -2, -7, 3, 8, 9, 255, 256, 257, 263, 1 << 31, 1 << 32, 1<<32 + 1, 1<<32 + 7, -1 << 32, math.MinInt, math.MinInt + 1, math.MaxInt}
}

// sized is a datum with the types' Size that it has room in.
type sized struct {
	d    api.Datum
	size int
}

// short is a datum for a failed test to tell.
func short(d api.Datum) string { return fmt.Sprintf("{%d %d %.40q}", d.Kind, d.Int, d.Text) }

func long(n int) string { return strings.Repeat("x", n) }

// good are data that are of a type, written out field by field.
func good() []sized {
	l := []sized{{api.Datum{Kind: 0, Int: 0}, 0}, {api.Datum{Kind: 0, Int: 1}, 0}}
	for _, n := range []int64{math.MinInt32, math.MinInt32 + 1, -1, 0, 1, 255, 256, math.MaxInt32 - 1, math.MaxInt32} {
		l = append(l, sized{api.Datum{Kind: 1, Int: n}, 0})
	}
	for _, n := range []int64{math.MinInt64, math.MinInt64 + 1, math.MinInt32 - 1, -1, 0, 1, math.MaxInt32 + 1, 1 << 53, 1<<53 + 1, math.MaxInt64 - 1, math.MaxInt64} {
		l = append(l, sized{api.Datum{Kind: 2, Int: n}, 0})
	}
	for _, n := range []int64{0, 1, 0x7fffff, 0x800000, 0x3f800000, 0x7f7fffff, 0x7f800000, 0x7f800001, 0x7fc00000, 0x7fffffff, 0x80000000, 0x80000001, 0xbf800000, 0xff800000, 0xff800001, 0xffc00000, 0xfffffffe, 0xffffffff} {
		l = append(l, sized{api.Datum{Kind: 4, Int: n}, 0})
	}
	for _, n := range []uint64{0, 1, 1<<52 - 1, 1 << 52, 0x3ff0000000000000, 0x3ff0000000000001, 0x7fefffffffffffff, 0x7ff0000000000000, 0x7ff0000000000001, 0x7ff8000000000000, 0x7fffffffffffffff, 0x8000000000000000, 0x8000000000000001, 0xbff0000000000000, 0xfff0000000000000, 0xfff0000000000001, 0xffffffffffffffff} {
		l = append(l, sized{api.Datum{Kind: 5, Int: int64(n)}, 0})
	}
	for _, s := range []string{"", "\x00", "\x00\x00", "a", "ab", "abc", "b", "A", "\"", "\\", "\x7f", "\x80", "\xff", "\xff\x00", "ä", "\xc3", "false", long(api.MaxBytes)} {
		l = append(l, sized{api.Datum{Kind: 6, Text: s}, 0})
		if s != "" {
			l = append(l, sized{api.Datum{Kind: 7, Text: s}, len(s)})
		}
	}
	return l
}

// bad are data that are of no type, whatever its Size.
func bad() []api.Datum {
	l := []api.Datum{{Kind: 7}, {Kind: 6, Text: long(api.MaxBytes + 1)}, {Kind: 7, Text: long(api.MaxBytes + 1)}}
	for _, k := range noKinds() {
		l = append(l, api.Datum{Kind: k}, api.Datum{Kind: k, Int: 1}, api.Datum{Kind: k, Text: "a"})
	}
	for _, n := range []int64{-1, 2, 255, 256, 257, 1 << 32, 1<<32 + 1, math.MinInt64, math.MaxInt64} {
		l = append(l, api.Datum{Kind: 0, Int: n})
	}
	for _, n := range []int64{math.MinInt32 - 1, math.MaxInt32 + 1, math.MaxUint32, 1 << 32, math.MinInt64, math.MaxInt64} {
		l = append(l, api.Datum{Kind: 1, Int: n})
	}
	for _, n := range []int64{-1, math.MinInt32, math.MaxUint32 + 1, 1<<32 + 0x3f800000, 1<<32 + 0x7fc00000, -1 << 32, math.MinInt64, math.MaxInt64} {
		l = append(l, api.Datum{Kind: 4, Int: n})
	}
	for _, k := range []api.Kind{0, 1, 2, 4, 5} {
		l = append(l, api.Datum{Kind: k, Text: "a"}, api.Datum{Kind: k, Int: 1, Text: "\x00"}, api.Datum{Kind: k, Text: long(api.MaxBytes)})
	}
	l = append(l, api.Datum{Kind: 5, Int: 0x7ff8000000000000, Text: "a"}, api.Datum{Kind: 4, Int: 0x7fc00000, Text: "a"})
	for _, k := range []api.Kind{6, 7} {
		for _, n := range []int64{-1, 1, 2, 1 << 32, math.MinInt64, math.MaxInt64} {
			l = append(l, api.Datum{Kind: k, Int: n}, api.Datum{Kind: k, Int: n, Text: "a"})
		}
	}
	return l
}

// someTypes are types that may be.
func someTypes() []api.Type {
	var l []api.Type
	for _, k := range plainKinds {
		l = append(l, api.Type{Kind: k})
	}
	for _, n := range []int{1, 2, 3, 12, 255, 256, api.MaxBytes - 1, api.MaxBytes} {
		l = append(l, api.Type{Kind: 7, Size: n})
	}
	return l
}

// noTypes are types that may not be.
func noTypes() []api.Type {
	var l []api.Type
	for _, k := range noKinds() {
		for _, n := range []int{0, 1, 4, -1} {
			l = append(l, api.Type{Kind: k, Size: n})
		}
	}
	for _, n := range []int{-1, api.MaxBytes + 1, 1 << 32, 1<<32 + 1, math.MinInt, math.MaxInt} {
		for _, k := range append(slices.Clone(plainKinds), 7) {
			l = append(l, api.Type{Kind: k, Size: n})
		}
	}
	for _, k := range plainKinds {
		l = append(l, api.Type{Kind: k, Size: 1}, api.Type{Kind: k, Size: 4}, api.Type{Kind: k, Size: 8}, api.Type{Kind: k, Size: api.MaxBytes})
	}
	return append(l, api.Type{Kind: 7})
}

// P9.1
func TestCheck(t *testing.T) {
	for _, x := range someTypes() {
		if e := datum.Check(x); e != api.OK {
			t.Errorf("Check(%v): %v", x, e)
		}
	}
	for _, x := range noTypes() {
		if e := datum.Check(x); e != api.ErrArg {
			t.Errorf("Check(%v): %v", x, e)
		}
	}
}

// P9.1: a datum is of just one type, if of any.
func TestOf(t *testing.T) {
	for _, x := range good() {
		own := api.Type{Kind: x.d.Kind, Size: x.size}
		if !datum.Of(x.d, own) {
			t.Errorf("Of(%s, %v): false", short(x.d), own)
		}
		for _, other := range append(someTypes(), noTypes()...) {
			if got := datum.Of(x.d, other); got != (other == own) {
				t.Errorf("Of(%s, %v): %v", short(x.d), other, got)
			}
		}
	}
}

// P9.1
func TestOfNoType(t *testing.T) {
	for _, d := range bad() {
		types := append(someTypes(), noTypes()...)
		types = append(types, api.Type{Kind: d.Kind}, api.Type{Kind: d.Kind, Size: len(d.Text)})
		for _, x := range types {
			if datum.Of(d, x) {
				t.Errorf("Of(%s, %v): true", short(d), x)
			}
		}
	}
}

// P9.1: each length of a fixed one, by each Size.
func TestOfFixed(t *testing.T) {
	for n := range 20 {
		for size := -2; size < 20; size++ {
			want := n == size && n > 0
			if got := datum.Of(api.Datum{Kind: 7, Text: long(n)}, api.Type{Kind: 7, Size: size}); got != want {
				t.Errorf("%d bytes, of %d: %v", n, size, got)
			}
		}
	}
	for n := api.MaxBytes - 1; n <= api.MaxBytes+1; n++ {
		for size := api.MaxBytes - 1; size <= api.MaxBytes+1; size++ {
			want := n == size && n <= api.MaxBytes
			if got := datum.Of(api.Datum{Kind: 7, Text: long(n)}, api.Type{Kind: 7, Size: size}); got != want {
				t.Errorf("%d bytes, of %d: %v", n, size, got)
			}
		}
	}
}

// everything is what is of a type, and what is of none.
func everything() []api.Datum {
	var l []api.Datum
	for _, x := range good() {
		l = append(l, x.d)
	}
	return append(l, bad()...)
}

// P9.1: by the fields alone: of no type, of no order too.
func TestSame(t *testing.T) {
	l := everything()
	for _, a := range l {
		for _, b := range l {
			want := a.Kind == b.Kind && a.Int == b.Int && a.Text == b.Text
			if got := datum.Same(a, b); got != want {
				t.Errorf("Same(%s, %s): %v", short(a), short(b), got)
			}
		}
	}
}

// P9.1
func TestSameAll(t *testing.T) {
	nan, zero, minus := datum.Double(math.NaN()), datum.Double(0), datum.Double(math.Copysign(0, -1))
	one, none := datum.Int32(1), api.Datum{Kind: 3}
	for i, x := range []struct {
		a, b []api.Datum
		want bool
	}{
		{nil, nil, true},
		{nil, []api.Datum{}, true},
		{[]api.Datum{}, nil, true},
		{nil, []api.Datum{{}}, false},
		{[]api.Datum{{}}, nil, false},
		{[]api.Datum{{}}, []api.Datum{{}}, true},
		{[]api.Datum{{}}, []api.Datum{{}, {}}, false},
		{[]api.Datum{nan}, []api.Datum{nan}, true},
		{[]api.Datum{none, one}, []api.Datum{none, one}, true},
		{[]api.Datum{zero}, []api.Datum{minus}, false},
		{[]api.Datum{one, zero}, []api.Datum{zero, one}, false},
		{[]api.Datum{one, zero}, []api.Datum{one}, false},
		{[]api.Datum{one}, []api.Datum{one, zero}, false},
		{[]api.Datum{one}, []api.Datum{datum.Int64(1)}, false},
		{[]api.Datum{datum.Bytes("a")}, []api.Datum{datum.Fixed("a")}, false},
		{[]api.Datum{one, one, one}, []api.Datum{one, one, none}, false},
		{[]api.Datum{none, one, one}, []api.Datum{one, one, one}, false},
	} {
		if got := datum.SameAll(x.a, x.b); got != x.want {
			t.Errorf("%d: SameAll(%v, %v): %v", i, x.a, x.b, got)
		}
	}
}

// P9.1: as many as may be and more, all but one the same.
func TestSameAllOfMany(t *testing.T) {
	a := make([]api.Datum, api.MaxCount+1)
	b := slices.Clone(a)
	if !datum.SameAll(a, b) {
		t.Error("the same: false")
	}
	for _, at := range []int{0, 1, len(b) / 2, len(b) - 1} {
		b[at].Int = 1
		if datum.SameAll(a, b) {
			t.Errorf("another at %d: true", at)
		}
		b[at].Int = 0
	}
}

func TestListsAreNotChanged(t *testing.T) {
	room := everything()
	was := slices.Clone(room)
	n := len(room) / 2
	datum.SameAll(room[:n], room[n:2*n])
	datum.SameAll(room[:n], room[:n])
	if !slices.Equal(room, was) {
		t.Error("a list was changed")
	}
}
