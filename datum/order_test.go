package datum_test

import (
	"bytes"
	"math"
	"math/rand/v2"
	"testing"

	"marquetry/api"
	"marquetry/datum"
)

// place is where a real number stands among those of its bits, by its bits alone.
func place(bits uint64, width, fraction int) (int64, bool) {
	size := bits &^ (1 << (width - 1))
	endless := uint64(1)<<(width-1) - 1<<fraction
	if size != bits {
		return -int64(size), size <= endless
	}
	return int64(size), size <= endless
}

func sign(below, above bool) (int, bool) {
	if below {
		return -1, true
	}
	if above {
		return 1, true
	}
	return 0, true
}

// compared is the order of two data of a type, as the chapter's words have it.
func compared(a, b api.Datum) (int, bool) {
	if a.Kind != b.Kind {
		return 0, false
	}
	switch a.Kind {
	case 4, 5:
		width, fraction := 32, 23
		if a.Kind == 5 {
			width, fraction = 64, 52
		}
		m, has := place(uint64(a.Int), width, fraction)
		n, too := place(uint64(b.Int), width, fraction)
		if !has || !too {
			return 0, false
		}
		return sign(m < n, m > n)
	case 6, 7:
		return bytes.Compare([]byte(a.Text), []byte(b.Text)), true
	}
	return sign(a.Int < b.Int, a.Int > b.Int)
}

func wantOrder(t *testing.T, a, b api.Datum, want int, has bool) {
	t.Helper()
	if n, ok := datum.Compare(a, b); n != want || ok != has {
		t.Errorf("Compare(%s, %s): %d %v, not %d %v", short(a), short(b), n, ok, want, has)
	}
}

// P9.1: each two of the edges.
func TestCompare(t *testing.T) {
	l := good()
	for _, a := range l {
		for _, b := range l {
			n, ok := compared(a.d, b.d)
			wantOrder(t, a.d, b.d, n, ok)
		}
	}
}

// P9.1: what is of no type has no order, not even with itself.
func TestCompareOfNoType(t *testing.T) {
	l := everything()
	for _, a := range bad() {
		for _, b := range l {
			wantOrder(t, a, b, 0, false)
			wantOrder(t, b, a, 0, false)
		}
	}
}

// P9.1: the order of each kind, from the front to the end.
func TestOrders(t *testing.T) {
	for _, l := range [][]api.Datum{
		{datum.Bool(false), datum.Bool(true)},
		{datum.Int32(math.MinInt32), datum.Int32(-256), datum.Int32(-1), datum.Int32(0), datum.Int32(1), datum.Int32(256), datum.Int32(math.MaxInt32)},
		{datum.Int64(math.MinInt64), datum.Int64(math.MinInt64 + 1), datum.Int64(-1), datum.Int64(0), datum.Int64(1 << 53), datum.Int64(1<<53 + 1), datum.Int64(math.MaxInt64)},
		{datum.Float(float32(math.Inf(-1))), datum.Float(-math.MaxFloat32), datum.Float(-1), datum.Float(-math.SmallestNonzeroFloat32), datum.Float(0), datum.Float(math.SmallestNonzeroFloat32), datum.Float(0.1), datum.Float(1), datum.Float(float32(math.Inf(1)))},
		{datum.Double(math.Inf(-1)), datum.Double(-math.MaxFloat64), datum.Double(-1), datum.Double(-math.SmallestNonzeroFloat64), datum.Double(0), datum.Double(math.SmallestNonzeroFloat64), datum.Double(1), datum.Double(math.Nextafter(1, 2)), datum.Double(math.Inf(1))},
		{datum.Bytes(""), datum.Bytes("\x00"), datum.Bytes("B"), datum.Bytes("a"), datum.Bytes("a\x00"), datum.Bytes("ab"), datum.Bytes("b"), datum.Bytes("\x7f"), datum.Bytes("\x80"), datum.Bytes("\xff"), datum.Bytes("\xff\xff")},
		{datum.Fixed("\x00"), datum.Fixed("a"), datum.Fixed("aa"), datum.Fixed("ab"), datum.Fixed("b"), datum.Fixed("\xff")},
	} {
		for i, a := range l {
			for j, b := range l {
				n, _ := sign(i < j, i > j)
				wantOrder(t, a, b, n, true)
			}
		}
	}
}

// P9.1: -0, NaN, two kinds: the table of the chapter, and its like.
func TestCompareExamples(t *testing.T) {
	zero, minus := datum.Double(0), datum.Double(math.Copysign(0, -1))
	small, smallMinus := datum.Float(0), datum.Float(float32(math.Copysign(0, -1)))
	nan, nan32 := datum.Double(math.NaN()), datum.Float(float32(math.NaN()))
	wantOrder(t, minus, zero, 0, true)
	wantOrder(t, zero, minus, 0, true)
	wantOrder(t, smallMinus, small, 0, true)
	wantOrder(t, small, smallMinus, 0, true)
	wantOrder(t, nan32, datum.Float(1), 0, false)
	wantOrder(t, datum.Float(1), nan32, 0, false)
	wantOrder(t, nan32, nan32, 0, false)
	wantOrder(t, nan, nan, 0, false)
	wantOrder(t, nan, datum.Double(math.Inf(1)), 0, false)
	wantOrder(t, datum.Bytes("a"), datum.Bytes("ab"), -1, true)
	wantOrder(t, datum.Int32(1), datum.Int64(1), 0, false)
	wantOrder(t, datum.Float(1), datum.Double(1), 0, false)
	wantOrder(t, datum.Bytes("a"), datum.Fixed("b"), 0, false)
	wantOrder(t, datum.Bool(true), datum.Int32(0), 0, false)
	wantOrder(t, datum.Fixed(""), datum.Fixed(""), 0, false)
	wantOrder(t, datum.Fixed(""), datum.Fixed("a"), 0, false)
	wantOrder(t, datum.Bytes(""), datum.Bytes(""), 0, true)
}

// P9.1: bytes that differ at their end alone.
func TestCompareLongBytes(t *testing.T) {
	most, last := datum.Bytes(long(api.MaxBytes)), datum.Bytes(long(api.MaxBytes-1)+"y")
	wantOrder(t, most, last, -1, true)
	wantOrder(t, last, most, 1, true)
	wantOrder(t, most, most, 0, true)
	wantOrder(t, datum.Bytes(long(api.MaxBytes-1)), most, -1, true)
	wantOrder(t, most, datum.Bytes(long(api.MaxBytes+1)), 0, false)
}

// randomDatum is one of a type, often near an edge or another's like.
func randomDatum(r *rand.Rand) api.Datum {
	l := []int64{0, 1, -1, int64(r.IntN(5)), int64(r.Uint64()), int64(r.Uint64() >> r.IntN(64)), -1 << r.IntN(64)}
	n := l[r.IntN(len(l))]
	b := make([]byte, 1+r.IntN(4))
	for i := range b {
		b[i] = []byte{0, 'a', 'b', 255}[r.IntN(4)]
	}
	switch r.IntN(7) {
	case 0:
		return datum.Bool(n&1 == 1)
	case 1:
		return datum.Int32(int32(n))
	case 2:
		return datum.Int64(n)
	case 3:
		return api.Datum{Kind: 4, Int: int64(uint32(n))}
	case 4:
		return api.Datum{Kind: 5, Int: n}
	case 5:
		return datum.Bytes(string(b[1:]))
	}
	return datum.Fixed(string(b))
}

// P9.1
func TestCompareByTheChaptersWords(t *testing.T) {
	r := rand.New(rand.NewPCG(1, 9))
	for range 200000 {
		a, b := randomDatum(r), randomDatum(r)
		n, ok := compared(a, b)
		wantOrder(t, a, b, n, ok)
	}
}

// isOrder: do three keep what an order keeps?
func isOrder(t *testing.T, a, b, c api.Datum) {
	t.Helper()
	ab, abHas := datum.Compare(a, b)
	ba, baHas := datum.Compare(b, a)
	if ab != -ba || abHas != baHas || ab < -1 || ab > 1 || !abHas && ab != 0 {
		t.Fatalf("%s, %s: %d %v, turned %d %v", short(a), short(b), ab, abHas, ba, baHas)
	}
	if abHas && datum.Same(a, b) && ab != 0 {
		t.Fatalf("%s and the same: %d", short(a), ab)
	}
	bc, bcHas := datum.Compare(b, c)
	ac, acHas := datum.Compare(a, c)
	if !abHas || !bcHas {
		return
	}
	if !acHas {
		t.Fatalf("%s, %s, %s: the outer two alone have no order", short(a), short(b), short(c))
	}
	if ab <= 0 && bc <= 0 && (ac > 0 || ac == 0 && (ab < 0 || bc < 0)) {
		t.Fatalf("%s, %s, %s: %d, %d, but %d", short(a), short(b), short(c), ab, bc, ac)
	}
}

// P9.3: each three of the edges of a kind.
func TestCompareIsAnOrder(t *testing.T) {
	byKind := map[api.Kind][]api.Datum{}
	for _, d := range everything() {
		byKind[d.Kind] = append(byKind[d.Kind], d)
	}
	for _, l := range byKind {
		for _, a := range l {
			for _, b := range l {
				for _, c := range l {
					isOrder(t, a, b, c)
				}
			}
		}
	}
}

// P9.3: of any three.
func TestCompareIsAnOrderOfAny(t *testing.T) {
	r := rand.New(rand.NewPCG(2, 9))
	l := everything()
	for range 100000 {
		isOrder(t, l[r.IntN(len(l))], l[r.IntN(len(l))], l[r.IntN(len(l))])
		isOrder(t, randomDatum(r), randomDatum(r), randomDatum(r))
	}
}

// P9.3: what is of a type and is no NaN is like itself.
func TestTheSameAreAlike(t *testing.T) {
	for _, x := range good() {
		wantOrder(t, x.d, x.d, 0, !datum.Nan(x.d))
	}
}

// P9.1
func TestNan(t *testing.T) {
	for _, x := range good() {
		want := false
		switch x.d.Kind {
		case 4:
			want = x.d.Int&0x7fffffff > 0x7f800000
		case 5:
			want = x.d.Int&math.MaxInt64 > 0x7ff0000000000000
		}
		if got := datum.Nan(x.d); got != want {
			t.Errorf("Nan(%s): %v", short(x.d), got)
		}
	}
	for _, d := range bad() {
		if datum.Nan(d) {
			t.Errorf("Nan(%s): true", short(d))
		}
	}
}

// P9.1
func TestReal(t *testing.T) {
	for _, x := range []float32{0, 1, 1.5, -2, 0.1, math.MaxFloat32, math.SmallestNonzeroFloat32, float32(math.Inf(1)), float32(math.Inf(-1))} {
		if got, is := datum.Real(datum.Float(x)); got != float64(x) || !is {
			t.Errorf("Real(Float(%v)): %v %v", x, got, is)
		}
	}
	for _, x := range []float64{0, 1, 1.5, -2, 0.1, math.Pi, math.MaxFloat64, math.SmallestNonzeroFloat64, math.Inf(1), math.Inf(-1)} {
		if got, is := datum.Real(datum.Double(x)); got != x || !is {
			t.Errorf("Real(Double(%v)): %v %v", x, got, is)
		}
	}
	for _, d := range []api.Datum{{Kind: 4, Int: 1 << 31}, {Kind: 5, Int: math.MinInt64}} {
		if got, is := datum.Real(d); math.Float64bits(got) != 1<<63 || !is {
			t.Errorf("Real(%v): %v %v", d, got, is)
		}
	}
	for _, d := range []api.Datum{{Kind: 4, Int: 0x7fc00000}, {Kind: 4, Int: 0xffffffff}, {Kind: 5, Int: 0x7ff8000000000000}, {Kind: 5, Int: -1}} {
		if got, is := datum.Real(d); !math.IsNaN(got) || !is {
			t.Errorf("Real(%v): %v %v", d, got, is)
		}
	}
}

// P9.1: of all else nothing.
func TestNoReal(t *testing.T) {
	l := bad()
	for _, x := range good() {
		if x.d.Kind != 4 && x.d.Kind != 5 {
			l = append(l, x.d)
		}
	}
	for _, d := range l {
		if got, is := datum.Real(d); math.Float64bits(got) != 0 || is {
			t.Errorf("Real(%s): %v %v", short(d), got, is)
		}
	}
}
