package bits_test

import (
	"bytes"
	"math"
	"math/big"
	"math/rand/v2"
	"slices"
	"testing"

	"marquetry/api"
	"marquetry/bits"
)

// random is the same numbers in each run, of all widths alike.
func random(seed uint64) func() uint64 {
	r := rand.New(rand.NewPCG(seed, 1))
	return func() uint64 { return r.Uint64() >> r.IntN(64) }
}

func edges() []uint64 {
	l := []uint64{0}
	for i := range 64 {
		l = append(l, 1<<i-1, 1<<i, 1<<i+1)
	}
	return append(l, math.MaxUint64-1, math.MaxUint64)
}

func join(parts ...[]byte) []byte { return slices.Concat(parts...) }

func times(c byte, n int) []byte { return bytes.Repeat([]byte{c}, n) }

// P1.1
func TestLittle(t *testing.T) {
	for _, x := range []struct {
		n     uint64
		bytes int
		want  []byte
		e     api.Errno
	}{
		{258, 4, []byte{2, 1, 0, 0}, api.OK},
		{0, 0, nil, api.OK},
		{0, 1, []byte{0}, api.OK},
		{255, 1, []byte{255}, api.OK},
		{0x0102030405060708, 8, []byte{8, 7, 6, 5, 4, 3, 2, 1}, api.OK},
		{math.MaxUint64, 8, times(255, 8), api.OK},
		{1<<56 - 1, 7, times(255, 7), api.OK},
		{1 << 56, 7, nil, api.ErrArg},
		{math.MaxUint64, 7, nil, api.ErrArg},
		{256, 1, nil, api.ErrArg},
		{1, 0, nil, api.ErrArg},
		{0, -1, nil, api.ErrArg},
		{0, 9, nil, api.ErrArg},
		{0, math.MinInt, nil, api.ErrArg},
		{0, math.MaxInt, nil, api.ErrArg},
	} {
		b, e := bits.Little(x.n, x.bytes)
		if !slices.Equal(b, x.want) || e != x.e {
			t.Errorf("Little(%d, %d): %v %v", x.n, x.bytes, b, e)
		}
	}
}

// P1.1
func TestReadLittle(t *testing.T) {
	for _, x := range []struct {
		b         []byte
		at, bytes int
		want      uint64
		e         api.Errno
	}{
		{[]byte{2, 1, 0, 0}, 0, 4, 258, api.OK},
		{[]byte{9, 2, 1, 9}, 1, 2, 258, api.OK},
		{times(255, 8), 0, 8, math.MaxUint64, api.OK},
		{[]byte{1, 2, 3, 4, 5, 6, 7, 8, 9}, 1, 8, 0x0908070605040302, api.OK},
		{[]byte{7}, 0, 0, 0, api.OK},
		{[]byte{7}, 1, 0, 0, api.OK},
		{nil, 0, 0, 0, api.OK},
		{nil, 0, 1, 0, api.ErrShort},
		{[]byte{7}, 1, 1, 0, api.ErrShort},
		{[]byte{1, 2, 3}, 1, 3, 0, api.ErrShort},
		{times(1, 7), 0, 8, 0, api.ErrShort},
		{nil, 1, 0, 0, api.ErrArg},
		{[]byte{7}, 2, 0, 0, api.ErrArg},
		{[]byte{7}, -1, 1, 0, api.ErrArg},
		{[]byte{7}, 0, -1, 0, api.ErrArg},
		{times(1, 20), 0, 9, 0, api.ErrArg},
		{times(1, 20), math.MinInt, 1, 0, api.ErrArg},
		{times(1, 20), math.MaxInt, 8, 0, api.ErrArg},
		{times(1, 20), 1, math.MaxInt, 0, api.ErrArg},
		{times(1, 20), 1, math.MinInt, 0, api.ErrArg},
		// ErrArg counts ahead of ErrShort.
		{[]byte{1}, 0, 9, 0, api.ErrArg},
		{[]byte{1}, 2, 8, 0, api.ErrArg},
	} {
		n, e := bits.ReadLittle(x.b, x.at, x.bytes)
		if n != x.want || e != x.e {
			t.Errorf("ReadLittle(%v, %d, %d): %d %v", x.b, x.at, x.bytes, n, e)
		}
	}
}

// P1.1
func TestReadingKnowsNoBoundOfBytes(t *testing.T) {
	b := times(1, api.MaxBytes+1)
	if n, e := bits.ReadLittle(b, api.MaxBytes, 1); n != 1 || e != api.OK {
		t.Errorf("ReadLittle: %d %v", n, e)
	}
	if n, next, e := bits.ReadVarint(b, api.MaxBytes); n != 1 || next != api.MaxBytes+1 || e != api.OK {
		t.Errorf("ReadVarint: %d %d %v", n, next, e)
	}
}

// P1.3
func TestLittleThereAndBack(t *testing.T) {
	next := random(1)
	for i := range 2000 {
		size := i % 9
		n := next()
		if size < 8 {
			n &= 1<<(8*size) - 1
		}
		b, e := bits.Little(n, size)
		if len(b) != size || e != api.OK {
			t.Fatalf("Little(%d, %d): %v %v", n, size, b, e)
		}
		got, e := bits.ReadLittle(join([]byte{7, 8}, b, []byte{9}), 2, size)
		if got != n || e != api.OK {
			t.Fatalf("ReadLittle of %v: %d %v, not %d", b, got, e, n)
		}
		again, e := bits.Little(got, size)
		if !slices.Equal(again, b) || e != api.OK {
			t.Fatalf("Little of what was read: %v %v, not %v", again, e, b)
		}
	}
}

// P1.1
func TestVarint(t *testing.T) {
	for _, x := range []struct {
		n    uint64
		want []byte
	}{
		{0, []byte{0}},
		{1, []byte{1}},
		{127, []byte{127}},
		{128, []byte{128, 1}},
		{300, []byte{172, 2}},
		{1<<14 - 1, []byte{255, 127}},
		{1 << 14, []byte{128, 128, 1}},
		{1<<63 - 1, join(times(255, 8), []byte{127})},
		{1 << 63, join(times(128, 9), []byte{1})},
		{math.MaxUint64, join(times(255, 9), []byte{1})},
	} {
		if b := bits.Varint(x.n); !slices.Equal(b, x.want) {
			t.Errorf("Varint(%d): %v", x.n, b)
		}
	}
}

// P1.1
func TestReadVarint(t *testing.T) {
	for _, x := range []struct {
		b    []byte
		at   int
		n    uint64
		next int
		e    api.Errno
	}{
		{[]byte{172, 2}, 0, 300, 2, api.OK},
		{[]byte{9, 172, 2, 9}, 1, 300, 3, api.OK},
		{[]byte{0}, 0, 0, 1, api.OK},
		{[]byte{0, 0}, 0, 0, 1, api.OK},
		{[]byte{0, 0}, 1, 0, 2, api.OK},
		{[]byte{128, 1}, 1, 1, 2, api.OK},
		{join(times(255, 9), []byte{1}), 0, math.MaxUint64, 10, api.OK},
		{join(times(128, 9), []byte{1, 255}), 0, 1 << 63, 10, api.OK},

		{[]byte{1}, -1, 0, 0, api.ErrArg},
		{[]byte{1}, 2, 0, 0, api.ErrArg},
		{nil, 1, 0, 0, api.ErrArg},
		{[]byte{1}, math.MinInt, 0, 0, api.ErrArg},
		{[]byte{1}, math.MaxInt, 0, 0, api.ErrArg},

		{nil, 0, 0, 0, api.ErrShort},
		{[]byte{1}, 1, 0, 0, api.ErrShort},
		{[]byte{128}, 0, 0, 0, api.ErrShort},
		{times(255, 9), 0, 0, 0, api.ErrShort},

		{join(times(255, 9), []byte{2}), 0, 0, 0, api.ErrOver},
		{join(times(128, 9), []byte{2}), 0, 0, 0, api.ErrOver},
		{join(times(128, 9), []byte{127}), 0, 0, 0, api.ErrOver},
		{join(times(255, 10), []byte{1}), 0, 0, 0, api.ErrOver},
		{join(times(128, 40), []byte{1}), 0, 0, 0, api.ErrOver},

		{[]byte{128, 0}, 0, 0, 0, api.ErrForm},
		{[]byte{255, 0}, 0, 0, 0, api.ErrForm},
		{[]byte{129, 128, 0, 1}, 0, 0, 0, api.ErrForm},
		{join(times(255, 9), []byte{0}), 0, 0, 0, api.ErrForm},

		// ErrShort counts ahead of ErrOver, ErrOver ahead of ErrForm.
		{times(255, 10), 0, 0, 0, api.ErrShort},
		{times(128, 50), 0, 0, 0, api.ErrShort},
		{join(times(128, 10), []byte{0}), 0, 0, 0, api.ErrOver},
		{join(times(255, 9), []byte{129, 0}), 0, 0, 0, api.ErrOver},
	} {
		n, next, e := bits.ReadVarint(x.b, x.at)
		if n != x.n || next != x.next || e != x.e {
			t.Errorf("ReadVarint(%v, %d): %d %d %v", x.b, x.at, n, next, e)
		}
	}
}

// P1.3
func TestVarintThereAndBack(t *testing.T) {
	next := random(2)
	l := edges()
	for range 2000 {
		l = append(l, next())
	}
	for _, n := range l {
		b := bits.Varint(n)
		got, end, e := bits.ReadVarint(join([]byte{200}, b, []byte{0}), 1)
		if got != n || end != 1+len(b) || e != api.OK {
			t.Fatalf("ReadVarint of %v: %d %d %v, not %d", b, got, end, e, n)
		}
		for i := range b {
			if got, end, e := bits.ReadVarint(b[:i], 0); got != 0 || end != 0 || e != api.ErrShort {
				t.Fatalf("ReadVarint of %v: %d %d %v", b[:i], got, end, e)
			}
		}
	}
}

// P1.3
func TestVarintThatIsReadIsWrittenSo(t *testing.T) {
	r := rand.New(rand.NewPCG(3, 1))
	read := 0
	for range 20000 {
		b := make([]byte, 1+r.IntN(12))
		for i := range b {
			b[i] = byte([]int{r.IntN(256), 128, 255, 0, 1}[r.IntN(5)])
		}
		n, next, e := bits.ReadVarint(b, 0)
		if e != api.OK {
			continue
		}
		read++
		if again := bits.Varint(n); !slices.Equal(again, b[:next]) {
			t.Fatalf("%v is read as %d, which is written as %v", b, n, again)
		}
	}
	if read == 0 {
		t.Error("no bytes were read")
	}
}

// P1.1
func TestZigzag(t *testing.T) {
	for _, x := range []struct {
		n    int64
		want uint64
	}{
		{0, 0}, {-1, 1}, {1, 2}, {-2, 3}, {2, 4},
		{math.MaxInt64, math.MaxUint64 - 1},
		{math.MinInt64, math.MaxUint64},
		{math.MinInt64 + 1, math.MaxUint64 - 2},
	} {
		if got := bits.Zigzag(x.n); got != x.want {
			t.Errorf("Zigzag(%d): %d", x.n, got)
		}
		if got := bits.Unzigzag(x.want); got != x.n {
			t.Errorf("Unzigzag(%d): %d", x.want, got)
		}
	}
}

// P1.1, P1.3
func TestZigzagThereAndBack(t *testing.T) {
	next := random(4)
	l := edges()
	for range 2000 {
		l = append(l, next())
	}
	for _, n := range l {
		if got := bits.Zigzag(bits.Unzigzag(n)); got != n {
			t.Fatalf("Zigzag of Unzigzag(%d): %d", n, got)
		}
		signed := int64(n)
		if got := bits.Unzigzag(bits.Zigzag(signed)); got != signed {
			t.Fatalf("Unzigzag of Zigzag(%d): %d", signed, got)
		}
		want := new(big.Int).Mul(big.NewInt(signed), big.NewInt(2))
		if signed < 0 {
			want.Neg(want).Sub(want, big.NewInt(1))
		}
		if got := new(big.Int).SetUint64(bits.Zigzag(signed)); got.Cmp(want) != 0 {
			t.Fatalf("Zigzag(%d): %v, not %v", signed, got, want)
		}
	}
}

// P1.2
func TestWidth(t *testing.T) {
	for _, x := range []struct {
		n    uint64
		want int
	}{{0, 0}, {1, 1}, {2, 2}, {3, 2}, {4, 3}, {255, 8}, {256, 9}, {1<<63 - 1, 63}, {1 << 63, 64}, {math.MaxUint64, 64}} {
		if got := bits.Width(x.n); got != x.want {
			t.Errorf("Width(%d): %d", x.n, got)
		}
	}
}

// P1.2
func TestBits(t *testing.T) {
	for _, x := range []struct {
		b    []byte
		want []int
	}{
		{nil, nil},
		{[]byte{}, nil},
		{[]byte{5}, []int{1, 0, 1, 0, 0, 0, 0, 0}},
		{[]byte{128, 3}, []int{0, 0, 0, 0, 0, 0, 0, 1, 1, 1, 0, 0, 0, 0, 0, 0}},
		{[]byte{255}, []int{1, 1, 1, 1, 1, 1, 1, 1}},
	} {
		all := bits.Bits(x.b)
		for range 3 {
			if got := slices.Collect(all); !slices.Equal(got, x.want) {
				t.Errorf("Bits(%v): %v", x.b, got)
			}
		}
	}
}

// P1.2
func TestBitsMayBeLeft(t *testing.T) {
	all := bits.Bits([]byte{0b10110101, 1})
	want := []int{1, 0, 1, 0, 1, 1, 0, 1, 1, 0, 0, 0, 0, 0, 0, 0}
	for most := 1; most <= len(want); most++ {
		var got []int
		for bit := range all {
			got = append(got, bit)
			if len(got) == most {
				break
			}
		}
		if !slices.Equal(got, want[:most]) {
			t.Errorf("left after %d: %v", most, got)
		}
	}
	var pairs int
	for a := range all {
		for b := range all {
			pairs += a * b
		}
	}
	if pairs != 36 {
		t.Errorf("gone over within itself: %d", pairs)
	}
}

// P1.2: what is handed in is not kept.
func TestBitsAreThoseOfTheCall(t *testing.T) {
	b := []byte{5}
	all := bits.Bits(b)
	b[0] = 255
	want := []int{1, 0, 1, 0, 0, 0, 0, 0}
	if got := slices.Collect(all); !slices.Equal(got, want) {
		t.Errorf("after a change of the bytes: %v", got)
	}
	for range all {
		b[0] = 0
	}
	if got := slices.Collect(all); !slices.Equal(got, want) {
		t.Errorf("after a change on the way: %v", got)
	}
}

// P1.1, P1.2: what is handed in is not changed, spare room included.
func TestBytesAreNotChanged(t *testing.T) {
	room := []byte{172, 2, 136, 198, 250, 77, 78, 79}
	before := slices.Clone(room)
	b := room[:5]
	bits.ReadLittle(b, 0, 5)
	bits.ReadLittle(b, 0, 8)
	bits.ReadVarint(b, 0)
	bits.ReadVarint(b, 2)
	bits.Unpack(b[2:], 3, 8)
	bits.Unpack(b, 3, 8)
	for range bits.Bits(b) {
	}
	if !slices.Equal(room, before) {
		t.Errorf("%v", room)
	}
}
