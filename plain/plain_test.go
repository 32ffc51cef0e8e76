package plain_test

import (
	"encoding/binary"
	"fmt"
	"math"
	"math/rand/v2"
	"slices"
	"strings"
	"testing"

	"marquetry/api"
	"marquetry/datum"
	"marquetry/plain"
)

var (
	truth  = api.Type{Kind: api.KindBool}
	whole4 = api.Type{Kind: api.KindInt32}
	whole8 = api.Type{Kind: api.KindInt64}
	real4  = api.Type{Kind: api.KindFloat}
	real8  = api.Type{Kind: api.KindDouble}
	text   = api.Type{Kind: api.KindBytes}
)

func fixed(size int) api.Type { return api.Type{Kind: api.KindFixed, Size: size} }

// someTypes are types that may be, values of which are short.
func someTypes() []api.Type {
	return []api.Type{truth, whole4, whole8, real4, real8, text, fixed(1), fixed(2), fixed(3), fixed(16)}
}

// noTypes are types that may not be.
func noTypes() []api.Type {
	l := []api.Type{fixed(0), fixed(-1), fixed(api.MaxBytes + 1), fixed(math.MaxInt), fixed(math.MinInt), fixed(1<<32 + 1)}
	for _, k := range []api.Kind{-1, 3, 8, 9, 256, 257, 1 << 32, 1<<32 + 1, math.MinInt, math.MaxInt} {
		l = append(l, api.Type{Kind: k}, api.Type{Kind: k, Size: 1})
	}
	for _, k := range []api.Kind{0, 1, 2, 4, 5, 6} {
		for _, n := range []int{-1, 1, 4, 8, api.MaxBytes, math.MinInt, math.MaxInt} {
			l = append(l, api.Type{Kind: k, Size: n})
		}
	}
	return l
}

func long(n int) string { return strings.Repeat("x", n) }

func times(n int, d api.Datum) []api.Datum { return slices.Repeat([]api.Datum{d}, n) }

// laid are the bytes of values, told once more by other means.
func laid(t api.Type, data []api.Datum) []byte {
	var out []byte
	if t.Kind == api.KindBool {
		out = make([]byte, (len(data)+7)/8)
	}
	for i, d := range data {
		switch t.Kind {
		case api.KindBool:
			out[i/8] |= byte(d.Int << (i % 8))
		case api.KindInt32, api.KindFloat:
			out = binary.LittleEndian.AppendUint32(out, uint32(d.Int))
		case api.KindInt64, api.KindDouble:
			out = binary.LittleEndian.AppendUint64(out, uint64(d.Int))
		case api.KindBytes:
			out = append(binary.LittleEndian.AppendUint32(out, uint32(len(d.Text))), d.Text...)
		default:
			out = append(out, d.Text...)
		}
	}
	return out
}

// randomOf is a datum of a type.
func randomOf(r *rand.Rand, t api.Type) api.Datum {
	n := r.Uint64() >> r.IntN(64)
	if r.IntN(2) == 0 {
		n = -n
	}
	d := api.Datum{Kind: t.Kind}
	switch t.Kind {
	case api.KindBool:
		d.Int = int64(n & 1)
	case api.KindInt32:
		d.Int = int64(int32(n))
	case api.KindFloat:
		d.Int = int64(uint32(n))
	case api.KindInt64, api.KindDouble:
		d.Int = int64(n)
	case api.KindBytes:
		d.Text = string(randomBytes(r, r.IntN(5)))
	case api.KindFixed:
		d.Text = string(randomBytes(r, t.Size))
	}
	return d
}

func randomData(r *rand.Rand, t api.Type, n int) []api.Datum {
	data := make([]api.Datum, n)
	for i := range data {
		data[i] = randomOf(r, t)
	}
	return data
}

func randomBytes(r *rand.Rand, n int) []byte {
	b := make([]byte, n)
	for i := range b {
		b[i] = byte(r.Uint32())
	}
	return b
}

// tell is a list of data for a failed test to tell.
func tell(data []api.Datum) string {
	out := fmt.Sprintf("%d:", len(data))
	for _, d := range data[:min(len(data), 6)] {
		out += fmt.Sprintf(" {%d %d %.40q}", d.Kind, d.Int, d.Text)
	}
	return out
}

// wantWritten: do values have just these bytes, and are they read back?
func wantWritten(t *testing.T, x api.Type, data []api.Datum, want []byte) {
	t.Helper()
	if b, e := plain.Write(x, data...); !slices.Equal(b, want) || e != api.OK {
		t.Errorf("Write(%v, %s): %.40x (%d bytes) %v, not %.40x", x, tell(data), b, len(b), e, want)
	}
	if n, e := plain.Size(x, data...); n != len(want) || e != api.OK {
		t.Errorf("Size(%v, %s): %d %v, not %d", x, tell(data), n, e, len(want))
	}
	wantRead(t, want, x, data)
}

func wantRead(t *testing.T, b []byte, x api.Type, want []api.Datum) {
	t.Helper()
	if data, e := plain.Read(b, x, len(want)); !slices.Equal(data, want) || e != api.OK {
		t.Errorf("Read(%.40x (%d bytes), %v, %d): %s %v, not %s", b, len(b), x, len(want), tell(data), e, tell(want))
	}
}

// writeRefused: is it told why, and nothing else, by Write and by Size?
func writeRefused(t *testing.T, x api.Type, data []api.Datum, want api.Errno) {
	t.Helper()
	if b, e := plain.Write(x, data...); b != nil || e != want {
		t.Errorf("Write(%v, %s): %.40x %v, not %v", x, tell(data), b, e, want)
	}
	if n, e := plain.Size(x, data...); n != 0 || e != want {
		t.Errorf("Size(%v, %s): %d %v, not %v", x, tell(data), n, e, want)
	}
}

// P10.1: the table of the chapter, and its like.
func TestWrite(t *testing.T) {
	for _, x := range []struct {
		t    api.Type
		data []api.Datum
		want string
	}{
		{whole4, []api.Datum{datum.Int32(1), datum.Int32(-1)}, "\x01\x00\x00\x00\xff\xff\xff\xff"},
		{whole4, []api.Datum{datum.Int32(0x01020304)}, "\x04\x03\x02\x01"},
		{whole4, []api.Datum{datum.Int32(math.MinInt32), datum.Int32(math.MaxInt32)}, "\x00\x00\x00\x80\xff\xff\xff\x7f"},
		{whole8, []api.Datum{datum.Int64(-2), datum.Int64(0x0102030405060708)}, "\xfe\xff\xff\xff\xff\xff\xff\xff\x08\x07\x06\x05\x04\x03\x02\x01"},
		{whole8, []api.Datum{datum.Int64(math.MinInt64)}, "\x00\x00\x00\x00\x00\x00\x00\x80"},
		{whole8, []api.Datum{datum.Int64(math.MaxInt64)}, "\xff\xff\xff\xff\xff\xff\xff\x7f"},
		{real4, []api.Datum{datum.Float(1), datum.Float(-2)}, "\x00\x00\x80\x3f\x00\x00\x00\xc0"},
		{real4, []api.Datum{{Kind: 4, Int: 0x80000000}, {Kind: 4, Int: 0xffffffff}}, "\x00\x00\x00\x80\xff\xff\xff\xff"},
		{real4, []api.Datum{{Kind: 4, Int: 0x7f800001}, {Kind: 4, Int: 0xffc12345}}, "\x01\x00\x80\x7f\x45\x23\xc1\xff"},
		{real8, []api.Datum{datum.Double(1)}, "\x00\x00\x00\x00\x00\x00\xf0\x3f"},
		{real8, []api.Datum{datum.Double(math.Copysign(0, -1))}, "\x00\x00\x00\x00\x00\x00\x00\x80"},
		{real8, []api.Datum{{Kind: 5, Int: 0x7ff0000000000001}}, "\x01\x00\x00\x00\x00\x00\xf0\x7f"},
		{real8, []api.Datum{{Kind: 5, Int: -1}}, "\xff\xff\xff\xff\xff\xff\xff\xff"},
		{truth, []api.Datum{datum.Bool(true), datum.Bool(false), datum.Bool(true)}, "\x05"},
		{truth, []api.Datum{datum.Bool(false)}, "\x00"},
		{truth, times(8, datum.Bool(true)), "\xff"},
		{truth, times(9, datum.Bool(true)), "\xff\x01"},
		{truth, append(times(15, datum.Bool(false)), datum.Bool(true)), "\x00\x80"},
		{text, []api.Datum{datum.Bytes("ab")}, "\x02\x00\x00\x00ab"},
		{text, []api.Datum{datum.Bytes(""), datum.Bytes("\x00"), datum.Bytes("")}, "\x00\x00\x00\x00\x01\x00\x00\x00\x00\x00\x00\x00\x00"},
		{text, []api.Datum{datum.Bytes("\xff\xc3")}, "\x02\x00\x00\x00\xff\xc3"},
		{text, []api.Datum{datum.Bytes(long(256))}, "\x00\x01\x00\x00" + long(256)},
		{text, []api.Datum{datum.Bytes(long(65536))}, "\x00\x00\x01\x00" + long(65536)},
		{fixed(2), []api.Datum{datum.Fixed("xy"), datum.Fixed("\x00\xff")}, "xy\x00\xff"},
		{fixed(1), []api.Datum{datum.Fixed("x"), datum.Fixed("y")}, "xy"},
	} {
		wantWritten(t, x.t, x.data, []byte(x.want))
	}
}

// P10.1: of no values no bytes, of each type.
func TestWriteOfNothing(t *testing.T) {
	for _, x := range append(someTypes(), fixed(api.MaxBytes)) {
		wantWritten(t, x, nil, nil)
		wantWritten(t, x, []api.Datum{}, nil)
	}
}

// P10.1: types that may not be, ahead of what is wrong with the data.
func TestWriteByNoType(t *testing.T) {
	for _, x := range noTypes() {
		writeRefused(t, x, nil, api.ErrArg)
		writeRefused(t, x, []api.Datum{{Kind: x.Kind}}, api.ErrArg)
		writeRefused(t, x, []api.Datum{{Kind: x.Kind, Text: "x"}}, api.ErrArg)
		writeRefused(t, x, times(api.MaxCount+1, api.Datum{Kind: x.Kind}), api.ErrArg)
	}
}

// P10.1: data that are not of the type, wherever they stand.
func TestWriteOfOtherData(t *testing.T) {
	for _, x := range []struct {
		t    api.Type
		good api.Datum
		bad  []api.Datum
	}{
		{truth, datum.Bool(true), []api.Datum{{Kind: 0, Int: 2}, {Kind: 0, Int: -1}, {Kind: 0, Int: 256}, {Kind: 0, Text: "x"}, datum.Int32(1)}},
		{whole4, datum.Int32(5), []api.Datum{{Kind: 1, Int: 1 << 31}, {Kind: 1, Int: -1<<31 - 1}, {Kind: 1, Int: 1, Text: "x"}, datum.Int64(5), datum.Float(0), datum.Bool(true)}},
		{whole8, datum.Int64(5), []api.Datum{{Kind: 2, Text: "x"}, datum.Int32(5), datum.Double(5), {Kind: 3}, {Kind: 1<<32 + 2}}},
		{real4, datum.Float(5), []api.Datum{{Kind: 4, Int: -1}, {Kind: 4, Int: 1 << 32}, {Kind: 4, Text: "x"}, datum.Double(5), datum.Int32(5)}},
		{real8, datum.Double(5), []api.Datum{{Kind: 5, Text: "x"}, datum.Float(5), datum.Int64(5)}},
		{text, datum.Bytes("ab"), []api.Datum{{Kind: 6, Int: 1}, datum.Bytes(long(api.MaxBytes + 1)), datum.Fixed("ab"), {Kind: 8}, {Kind: -1}}},
		{fixed(2), datum.Fixed("ab"), []api.Datum{datum.Fixed("a"), datum.Fixed("abc"), datum.Fixed(""), {Kind: 7, Int: 1, Text: "ab"}, datum.Bytes("ab"), {Kind: 7, Int: 2}}},
	} {
		for _, d := range x.bad {
			writeRefused(t, x.t, []api.Datum{d}, api.ErrArg)
			writeRefused(t, x.t, []api.Datum{d, x.good, x.good}, api.ErrArg)
			writeRefused(t, x.t, []api.Datum{x.good, x.good, d}, api.ErrArg)
			// More than may be, and one of them not of the type: that is told.
			many := times(api.MaxCount+1, x.good)
			writeRefused(t, x.t, append(many, d), api.ErrArg)
		}
	}
	huge := datum.Fixed(long(api.MaxBytes))
	writeRefused(t, fixed(api.MaxBytes), []api.Datum{huge, huge, datum.Fixed("x")}, api.ErrArg)
}

// P10.1: as many values as may be, and one more.
func TestWriteManyValues(t *testing.T) {
	for _, d := range []api.Datum{datum.Bool(true), datum.Int32(-7), datum.Int64(1 << 40), datum.Float(-1.5), datum.Double(2.5), datum.Bytes(""), datum.Fixed("a")} {
		x := api.Type{Kind: d.Kind}
		if d.Kind == api.KindFixed {
			x.Size = 1
		}
		l := times(api.MaxCount+1, d)
		wantWritten(t, x, l[:api.MaxCount], laid(x, l[:api.MaxCount]))
		writeRefused(t, x, l, api.ErrLong)
	}
}

// P10.1: as many bytes as may be, and one more.
func TestWriteManyBytes(t *testing.T) {
	one := datum.Fixed(long(api.MaxBytes))
	wantWritten(t, fixed(api.MaxBytes), []api.Datum{one}, []byte(one.Text))
	writeRefused(t, fixed(api.MaxBytes), []api.Datum{one, one}, api.ErrLong)
	writeRefused(t, fixed(api.MaxBytes), times(5000, one), api.ErrLong)
	writeRefused(t, fixed(api.MaxBytes), times(api.MaxCount, one), api.ErrLong)
	writeRefused(t, fixed(api.MaxBytes), times(api.MaxCount+1, one), api.ErrLong)
	half := datum.Fixed(long(api.MaxBytes/2 + 1))
	wantWritten(t, fixed(api.MaxBytes/2+1), []api.Datum{half}, []byte(half.Text))
	writeRefused(t, fixed(api.MaxBytes/2+1), []api.Datum{half, half}, api.ErrLong)
	short := times(api.MaxCount, datum.Fixed(long(16)))
	wantWritten(t, fixed(16), short, laid(fixed(16), short))
	writeRefused(t, fixed(17), times(api.MaxCount, datum.Fixed(long(17))), api.ErrLong)

	last := []api.Datum{datum.Bytes(long(api.MaxBytes - 4))}
	wantWritten(t, text, last, laid(text, last))
	for n := api.MaxBytes - 3; n <= api.MaxBytes; n++ {
		writeRefused(t, text, []api.Datum{datum.Bytes(long(n))}, api.ErrLong)
	}
	two := []api.Datum{datum.Bytes(long(api.MaxBytes - 9)), datum.Bytes("a")}
	wantWritten(t, text, two, laid(text, two))
	writeRefused(t, text, append(two, datum.Bytes("")), api.ErrLong)
	writeRefused(t, text, times(api.MaxCount, datum.Bytes(long(api.MaxBytes))), api.ErrLong)
	many := times(api.MaxCount, datum.Bytes(long(12)))
	wantWritten(t, text, many, laid(text, many))
	many[7] = datum.Bytes(long(13))
	writeRefused(t, text, many, api.ErrLong)
}

// P10.3
func TestThereAndBack(t *testing.T) {
	r := rand.New(rand.NewPCG(1, 10))
	for range 300 {
		for _, x := range someTypes() {
			data := randomData(r, x, r.IntN(40))
			wantWritten(t, x, data, laid(x, data))
		}
	}
}

// P10.1: data that are handed in are not changed, nor what stands behind them; each answer is new memory.
func TestDataAreNotChanged(t *testing.T) {
	r := rand.New(rand.NewPCG(2, 10))
	for _, x := range someTypes() {
		room := randomData(r, x, 20)
		before := slices.Clone(room)
		a, _ := plain.Write(x, room[:9]...)
		b, _ := plain.Write(x, room[:9]...)
		clear(a[:cap(a)])
		if !slices.Equal(room, before) || !slices.Equal(b, laid(x, before[:9])) {
			t.Errorf("%v: %s, not %s; %x", x, tell(room), tell(before), b)
		}
	}
}
