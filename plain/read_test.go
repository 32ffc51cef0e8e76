package plain_test

import (
	"math"
	"math/rand/v2"
	"slices"
	"testing"

	"marquetry/api"
	"marquetry/datum"
	"marquetry/plain"
)

// readRefused: is it told why, and nothing else?
func readRefused(t *testing.T, b []byte, x api.Type, count int, want api.Errno) {
	t.Helper()
	if data, e := plain.Read(b, x, count); data != nil || e != want {
		t.Errorf("Read(%.40x (%d bytes), %v, %d): %s %v, not %v", b, len(b), x, count, tell(data), e, want)
	}
}

// P10.1: the table of the chapter, and its like.
func TestReadRefuses(t *testing.T) {
	for _, x := range []struct {
		b     string
		t     api.Type
		count int
		want  api.Errno
	}{
		{"\x05", truth, 2, api.ErrForm},
		{"\x05", truth, 9, api.ErrShort},
		{"", truth, 1, api.ErrShort},
		{"\x00", truth, 0, api.ErrExtra},
		{"\x00\x00", truth, 8, api.ErrExtra},
		{"\xff\xff", truth, 7, api.ErrExtra},
		{"\xff\x02", truth, 9, api.ErrForm},
		{"\x01\x00", whole4, 1, api.ErrShort},
		{"\x01\x00\x00", whole4, 1, api.ErrShort},
		{"", whole4, 1, api.ErrShort},
		{"\x01\x00\x00\x00", whole4, 2, api.ErrShort},
		{"\x01\x00\x00\x00\x01\x00\x00", whole4, 2, api.ErrShort},
		{"\x01\x00\x00\x00\x00", whole4, 1, api.ErrExtra},
		{"\x01\x00\x00\x00\x00\x00\x00\x00", whole4, 1, api.ErrExtra},
		{"\x01", whole4, 0, api.ErrExtra},
		{"\x01\x00\x00\x00", whole8, 1, api.ErrShort},
		{"\x01\x00\x00\x00\x00\x00\x00", whole8, 1, api.ErrShort},
		{"\x01\x00\x00\x00\x00\x00\x00\x00\x00", whole8, 1, api.ErrExtra},
		{"\x01\x00\x00", real4, 1, api.ErrShort},
		{"\x01\x00\x00\x00\x00", real4, 1, api.ErrExtra},
		{"\x01\x00\x00\x00\x00\x00\x00", real8, 1, api.ErrShort},
		{"\x01\x00\x00\x00\x00\x00\x00\x00\x00", real8, 1, api.ErrExtra},
		{"\x00\x00\x00", text, 1, api.ErrShort},
		{"", text, 1, api.ErrShort},
		{"\x02\x00\x00\x00a", text, 1, api.ErrShort},
		{"\x09\x00\x00\x00\x01", text, 1, api.ErrShort},
		{"\x00\x01\x00\x00ab", text, 1, api.ErrShort},
		{"\x01\x00\x00\x00ab", text, 1, api.ErrExtra},
		{"\x01\x00\x00\x00a\x00\x00\x00\x00", text, 1, api.ErrExtra},
		{"\x01\x00\x00\x00a\x00\x00\x00\x00", text, 3, api.ErrShort},
		{"\x01\x00\x00\x00a\x00\x00\x00", text, 2, api.ErrShort},
		{"\x00", text, 0, api.ErrExtra},
		{"\x00\x00\x00\x00", text, 0, api.ErrExtra},
		{"x", fixed(2), 1, api.ErrShort},
		{"xyz", fixed(2), 1, api.ErrExtra},
		{"xyz", fixed(2), 2, api.ErrShort},
		{"xy", fixed(2), 0, api.ErrExtra},
	} {
		readRefused(t, []byte(x.b), x.t, x.count, x.want)
	}
}

// P10.1: types and counts that may not be, ahead of what is wrong with the bytes.
func TestReadByNoTypeOrCount(t *testing.T) {
	for _, b := range [][]byte{nil, {0}, make([]byte, 8), make([]byte, api.MaxBytes+1)} {
		for _, x := range noTypes() {
			for _, count := range []int{0, 1, -1, api.MaxCount + 1, math.MaxInt} {
				readRefused(t, b, x, count, api.ErrArg)
			}
		}
		for _, x := range someTypes() {
			for _, count := range []int{-1, -2, -1 << 32, math.MinInt, math.MinInt + 1} {
				readRefused(t, b, x, count, api.ErrArg)
			}
		}
	}
}

// P10.1: more bytes, more values than may be.
func TestReadOfTooMany(t *testing.T) {
	for _, x := range append(someTypes(), fixed(api.MaxBytes)) {
		for _, count := range []int{0, 1, 100, api.MaxCount, api.MaxCount + 1, math.MaxInt} {
			readRefused(t, make([]byte, api.MaxBytes+1), x, count, api.ErrLong)
		}
		for _, count := range []int{api.MaxCount + 1, api.MaxBytes, 1 << 32, 1<<32 + 1, math.MaxInt} {
			readRefused(t, nil, x, count, api.ErrLong)
			readRefused(t, make([]byte, 8), x, count, api.ErrLong)
			readRefused(t, make([]byte, api.MaxBytes), x, count, api.ErrLong)
		}
		readRefused(t, make([]byte, 16), x, api.MaxCount, api.ErrShort)
	}
	wantRead(t, make([]byte, api.MaxBytes), fixed(api.MaxBytes), []api.Datum{datum.Fixed(string(make([]byte, api.MaxBytes)))})
	readRefused(t, make([]byte, api.MaxBytes), fixed(api.MaxBytes-1), 1, api.ErrExtra)
	readRefused(t, make([]byte, api.MaxBytes), whole4, api.MaxCount, api.ErrExtra)
	readRefused(t, make([]byte, api.MaxBytes), truth, api.MaxCount, api.ErrExtra)
}

// P10.1: of what ends too early just that is told, though it says to have more bytes than may be.
func TestReadOfWhatIsShortAndLong(t *testing.T) {
	full := make([]byte, api.MaxBytes)
	readRefused(t, full, fixed(api.MaxBytes), 2, api.ErrShort)
	readRefused(t, full, fixed(api.MaxBytes), api.MaxCount, api.ErrShort)
	readRefused(t, full, fixed(17), api.MaxCount, api.ErrShort)
	readRefused(t, nil, fixed(api.MaxBytes), 2, api.ErrShort)
	readRefused(t, full[:api.MaxBytes-1], fixed(api.MaxBytes), 1, api.ErrShort)
	for _, head := range []string{"\xff\xff\xff\xff", "\x00\x00\x00\x80", "\xff\xff\xff\x7f", "\xfc\xff\xff\xff", "\x00\x00\x10\x00", "\x01\x00\x10\x00", "\xfd\xff\x0f\x00", "\x00\x00\x00\x01"} {
		for _, n := range []int{0, 1, 8, api.MaxBytes - 4} {
			b := append([]byte(head), full[:n]...)
			readRefused(t, b, text, 1, api.ErrShort)
			readRefused(t, b, text, 2, api.ErrShort)
			readRefused(t, b, text, 0, api.ErrExtra)
			if n < api.MaxBytes-4 {
				readRefused(t, append([]byte{0, 0, 0, 0}, b...), text, 2, api.ErrShort)
			}
		}
	}
	wantRead(t, append([]byte("\xfc\xff\x0f\x00"), full[4:]...), text, []api.Datum{datum.Bytes(string(full[4:]))})
}

// P10.1: each number of truths, each bit that is left over.
func TestReadOfBitsLeftOver(t *testing.T) {
	for count := range 34 {
		size := (count + 7) / 8
		data := make([]api.Datum, count)
		for i := range data {
			data[i] = datum.Bool(i%3 != 1)
		}
		b := laid(truth, data)
		wantRead(t, b, truth, data)
		readRefused(t, append(slices.Clone(b), 0), truth, count, api.ErrExtra)
		for bit := count; bit < 8*size; bit++ {
			wrong := slices.Clone(b)
			wrong[bit/8] |= 1 << (bit % 8)
			readRefused(t, wrong, truth, count, api.ErrForm)
			readRefused(t, append(wrong, 0), truth, count, api.ErrExtra)
			readRefused(t, wrong[:size-1], truth, count, api.ErrShort)
		}
	}
}

// P10.1: bytes of each number, by each count.
func TestReadByEachCount(t *testing.T) {
	for _, x := range []api.Type{whole4, whole8, real4, real8, fixed(1), fixed(3), fixed(16)} {
		each := len(laid(x, []api.Datum{{Kind: x.Kind, Text: long(x.Size)}}))
		for n := range 70 {
			for count := range 75 {
				switch b := make([]byte, n); {
				case n < each*count:
					readRefused(t, b, x, count, api.ErrShort)
				case n > each*count:
					readRefused(t, b, x, count, api.ErrExtra)
				default:
					d := api.Datum{Kind: x.Kind, Text: string(make([]byte, x.Size))}
					wantRead(t, b, x, times(count, d))
				}
			}
		}
	}
}

// P10.3: what is read is of the type, and written as it was; what is refused no writer lays.
func TestWhatIsReadIsWrittenSo(t *testing.T) {
	r := rand.New(rand.NewPCG(3, 10))
	read := map[api.Kind]int{}
	for range 20000 {
		for _, x := range someTypes() {
			b := randomBytes(r, r.IntN(18))
			for i := range b {
				if x == text && r.IntN(3) > 0 {
					b[i] = byte(r.IntN(3) / 2)
				}
			}
			count := r.IntN(6)
			data, e := plain.Read(b, x, count)
			if e != api.OK {
				continue
			}
			read[x.Kind]++
			again, e := plain.Write(x, data...)
			if len(data) != count || !slices.Equal(again, b) || e != api.OK {
				t.Fatalf("Read(%x, %v, %d): %s; written again %x %v", b, x, count, tell(data), again, e)
			}
		}
	}
	for _, x := range someTypes() {
		if read[x.Kind] < 100 {
			t.Errorf("%v: only %d were read", x, read[x.Kind])
		}
	}
}

// P10.3: whatever stands ahead of the end of what is written ends too early, whatever stands behind is too much.
func TestReadOfEachCut(t *testing.T) {
	r := rand.New(rand.NewPCG(4, 10))
	for range 50 {
		for _, x := range someTypes() {
			data := randomData(r, x, 1+r.IntN(12))
			b := laid(x, data)
			for n := range b {
				readRefused(t, b[:n], x, len(data), api.ErrShort)
			}
			readRefused(t, append(b, byte(r.IntN(256))), x, len(data), api.ErrExtra)
		}
	}
}

// P10.1: bytes that are handed in are not changed, and not kept.
func TestBytesAreNotKept(t *testing.T) {
	r := rand.New(rand.NewPCG(5, 10))
	for _, x := range someTypes() {
		want := randomData(r, x, 9)
		b := append(laid(x, want), 77, 78)
		before := slices.Clone(b)
		data, e := plain.Read(b[:len(b)-2], x, len(want))
		other, _ := plain.Read(b[:len(b)-2], x, len(want))
		if !slices.Equal(b, before) {
			t.Errorf("%v: %x, not %x", x, b, before)
		}
		clear(b)
		clear(other[:cap(other)])
		if !slices.Equal(data, want) || e != api.OK {
			t.Errorf("%v: %s %v, not %s", x, tell(data), e, tell(want))
		}
	}
}
