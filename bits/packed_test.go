package bits_test

import (
	"math"
	"math/rand/v2"
	"slices"
	"testing"

	"marquetry/api"
	"marquetry/bits"
)

// P1.2
func TestPack(t *testing.T) {
	for _, x := range []struct {
		width int
		l     []uint64
		want  []byte
		e     api.Errno
	}{
		{3, []uint64{0, 1, 2, 3, 4, 5, 6, 7}, []byte{136, 198, 250}, api.OK},
		{1, []uint64{1, 0, 1}, []byte{5}, api.OK},
		{12, []uint64{0xabc, 0xdef}, []byte{0xbc, 0xfa, 0xde}, api.OK},
		{9, []uint64{511}, []byte{255, 1}, api.OK},
		{8, []uint64{1, 2}, []byte{1, 2}, api.OK},
		{0, nil, nil, api.OK},
		{0, []uint64{0, 0, 0}, nil, api.OK},
		{64, nil, nil, api.OK},
		{64, []uint64{math.MaxUint64, 1}, join(times(255, 8), []byte{1}, times(0, 7)), api.OK},
		{63, []uint64{1<<63 - 1, 1}, join(times(255, 8), times(0, 8)), api.OK},

		{-1, nil, nil, api.ErrArg},
		{65, nil, nil, api.ErrArg},
		{math.MinInt, []uint64{0}, nil, api.ErrArg},
		{math.MaxInt, []uint64{1}, nil, api.ErrArg},
		{0, []uint64{1}, nil, api.ErrArg},
		{2, []uint64{4}, nil, api.ErrArg},
		{2, []uint64{3, 3, 3, 3, 4}, nil, api.ErrArg},
		{63, []uint64{1 << 63}, nil, api.ErrArg},
	} {
		b, e := bits.Pack(x.width, x.l...)
		if !slices.Equal(b, x.want) || e != x.e {
			t.Errorf("Pack(%d, %v): %v %v", x.width, x.l, b, e)
		}
	}
}

// P1.2
func TestPackBounds(t *testing.T) {
	last := func(n int, x uint64) []uint64 {
		l := make([]uint64, n)
		l[n-1] = x
		return l
	}
	for _, x := range []struct {
		width int
		l     []uint64
		size  int
		e     api.Errno
	}{
		{0, last(api.MaxBytes, 0), 0, api.OK},
		{0, last(api.MaxBytes+1, 0), 0, api.ErrLong},
		{1, last(api.MaxBytes, 1), api.MaxBytes / 8, api.OK},
		{8, last(api.MaxBytes, 255), api.MaxBytes, api.OK},
		{8, last(api.MaxBytes+1, 255), 0, api.ErrLong},
		{9, last(api.MaxBytes, 1), 0, api.ErrLong},
		{64, last(api.MaxBytes/8, math.MaxUint64), api.MaxBytes, api.OK},
		{64, last(api.MaxBytes/8+1, math.MaxUint64), 0, api.ErrLong},
		// ErrArg counts ahead of ErrLong.
		{8, last(api.MaxBytes+1, 256), 0, api.ErrArg},
		{0, last(api.MaxBytes+1, 1), 0, api.ErrArg},
		{65, last(api.MaxBytes+1, 1), 0, api.ErrArg},
	} {
		b, e := bits.Pack(x.width, x.l...)
		if len(b) != x.size || e != x.e {
			t.Errorf("Pack of %d, %d wide: %d bytes, %v", len(x.l), x.width, len(b), e)
			continue
		}
		if e != api.OK {
			continue
		}
		if l, e := bits.Unpack(b, x.width, len(x.l)); !slices.Equal(l, x.l) || e != api.OK {
			t.Errorf("Unpack of %d, %d wide: %d numbers, %v", len(x.l), x.width, len(l), e)
		}
	}
}

// P1.2
func TestUnpack(t *testing.T) {
	for _, x := range []struct {
		b            []byte
		width, count int
		want         []uint64
		e            api.Errno
	}{
		{[]byte{136, 198, 250}, 3, 8, []uint64{0, 1, 2, 3, 4, 5, 6, 7}, api.OK},
		{[]byte{5}, 1, 3, []uint64{1, 0, 1}, api.OK},
		{nil, 0, 5, []uint64{0, 0, 0, 0, 0}, api.OK},
		{nil, 0, 0, nil, api.OK},
		{nil, 64, 0, nil, api.OK},
		{times(255, 8), 64, 1, []uint64{math.MaxUint64}, api.OK},
		{[]byte{0, 1}, 9, 1, []uint64{256}, api.OK},

		{nil, -1, 0, nil, api.ErrArg},
		{nil, 65, 0, nil, api.ErrArg},
		{nil, 1, -1, nil, api.ErrArg},
		{nil, 0, math.MinInt, nil, api.ErrArg},
		{nil, math.MaxInt, math.MaxInt, nil, api.ErrArg},

		{nil, 1, 3, nil, api.ErrShort},
		{[]byte{1}, 9, 1, nil, api.ErrShort},
		{times(255, 7), 64, 1, nil, api.ErrShort},

		{[]byte{0, 0}, 1, 3, nil, api.ErrExtra},
		{[]byte{0}, 0, 5, nil, api.ErrExtra},
		{[]byte{0}, 8, 0, nil, api.ErrExtra},
		{times(255, 9), 64, 1, nil, api.ErrExtra},

		{[]byte{8}, 1, 3, nil, api.ErrForm},
		{[]byte{128}, 7, 1, nil, api.ErrForm},
		{[]byte{0, 2}, 9, 1, nil, api.ErrForm},
		{[]byte{0, 128}, 3, 5, nil, api.ErrForm},

		// ErrExtra counts ahead of ErrForm.
		{[]byte{8, 0}, 1, 3, nil, api.ErrExtra},
	} {
		l, e := bits.Unpack(x.b, x.width, x.count)
		if !slices.Equal(l, x.want) || e != x.e {
			t.Errorf("Unpack(%v, %d, %d): %v %v", x.b, x.width, x.count, l, e)
		}
	}
}

// P1.2
func TestUnpackBounds(t *testing.T) {
	full, past := times(0, api.MaxBytes), times(0, api.MaxBytes+1)
	for _, x := range []struct {
		b            []byte
		width, count int
		e            api.Errno
	}{
		{nil, 0, api.MaxBytes, api.OK},
		{nil, 0, api.MaxBytes + 1, api.ErrLong},
		{full, 8, api.MaxBytes, api.OK},
		{full, 64, api.MaxBytes / 8, api.OK},
		{past, 8, api.MaxBytes + 1, api.ErrLong},
		{nil, 64, math.MaxInt, api.ErrLong},
		{nil, 1, 1 << 30, api.ErrLong},
		// ErrArg counts ahead of ErrLong, ErrLong ahead of ErrShort and ErrExtra.
		{past, 65, api.MaxBytes + 1, api.ErrArg},
		{past, 8, -1, api.ErrArg},
		{full, 64, api.MaxBytes/8 + 1, api.ErrLong},
		{past, 64, api.MaxBytes / 8, api.ErrLong},
		{past, 1, 3, api.ErrLong},
		{full, 1, 3, api.ErrExtra},
	} {
		l, e := bits.Unpack(x.b, x.width, x.count)
		if e != x.e || e != api.OK && l != nil || e == api.OK && len(l) != x.count {
			t.Errorf("Unpack of %d bytes, %d, %d: %d numbers, %v", len(x.b), x.width, x.count, len(l), e)
		}
	}
}

// P1.2
func TestSize(t *testing.T) {
	for _, x := range []struct {
		width, count, want int
		e                  api.Errno
	}{
		{3, 8, 3, api.OK},
		{1, 3, 1, api.OK},
		{1, 8, 1, api.OK},
		{1, 9, 2, api.OK},
		{64, 3, 24, api.OK},
		{0, 7, 0, api.OK},
		{7, 0, 0, api.OK},
		{0, api.MaxBytes, 0, api.OK},
		{0, api.MaxBytes + 1, 0, api.ErrLong},
		{8, api.MaxBytes, api.MaxBytes, api.OK},
		{1, api.MaxBytes + 1, 0, api.ErrLong},
		{9, api.MaxBytes, 0, api.ErrLong},
		{64, api.MaxBytes / 8, api.MaxBytes, api.OK},
		{64, api.MaxBytes/8 + 1, 0, api.ErrLong},
		{63, api.MaxBytes * 8 / 63, api.MaxBytes - 4, api.OK},
		{63, api.MaxBytes*8/63 + 1, 0, api.ErrLong},
		{64, math.MaxInt, 0, api.ErrLong},
		{64, 1 << 58, 0, api.ErrLong},
		{-1, 1, 0, api.ErrArg},
		{65, 1, 0, api.ErrArg},
		{1, -1, 0, api.ErrArg},
		{0, math.MinInt, 0, api.ErrArg},
		// ErrArg counts ahead of ErrLong.
		{65, math.MaxInt, 0, api.ErrArg},
		{math.MinInt, api.MaxBytes + 1, 0, api.ErrArg},
	} {
		n, e := bits.Size(x.width, x.count)
		if n != x.want || e != x.e {
			t.Errorf("Size(%d, %d): %d %v", x.width, x.count, n, e)
		}
	}
}

// P1.3
func TestPackedThereAndBack(t *testing.T) {
	next := random(5)
	for width := range 65 {
		for count := range 40 {
			l := make([]uint64, count)
			for i := range l {
				l[i] = next()
				if width < 64 {
					l[i] &= 1<<width - 1
				}
			}
			b, e := bits.Pack(width, l...)
			size, _ := bits.Size(width, count)
			if len(b) != size || e != api.OK {
				t.Fatalf("Pack(%d, %v): %v %v", width, l, b, e)
			}
			got, e := bits.Unpack(b, width, count)
			if !slices.Equal(got, l) || e != api.OK {
				t.Fatalf("Unpack(%v, %d, %d): %v %v, not %v", b, width, count, got, e, l)
			}
		}
	}
}

// P1.2: the bits of packed numbers are those of the numbers, without gaps.
func TestPackedBits(t *testing.T) {
	next := random(6)
	for width := 1; width <= 64; width++ {
		l := []uint64{next() >> (64 - width), next() >> (64 - width), 1<<(width-1) - 1, 1 << (width - 1)}
		b, e := bits.Pack(width, l...)
		if e != api.OK {
			t.Fatalf("Pack(%d, %v): %v", width, l, e)
		}
		place := 0
		for bit := range bits.Bits(b) {
			want := 0
			if place/width < len(l) {
				want = int(l[place/width] >> (place % width) & 1)
			}
			if bit != want {
				t.Fatalf("Pack(%d, %v): bit %d is %d", width, l, place, bit)
			}
			place++
		}
	}
}

// P1.3
func TestPackedThatIsReadIsWrittenSo(t *testing.T) {
	r := rand.New(rand.NewPCG(7, 1))
	read := 0
	for range 20000 {
		width, count := r.IntN(65), r.IntN(10)
		size, _ := bits.Size(width, count)
		b := make([]byte, size)
		for i := range b {
			b[i] = byte(r.IntN(256))
		}
		l, e := bits.Unpack(b, width, count)
		if e == api.ErrForm {
			continue
		}
		read++
		again, e2 := bits.Pack(width, l...)
		if len(l) != count || !slices.Equal(again, b) || e != api.OK || e2 != api.OK {
			t.Fatalf("Unpack(%v, %d, %d): %v %v; packed again %v %v", b, width, count, l, e, again, e2)
		}
	}
	if read == 0 {
		t.Error("no bytes were read")
	}
}

// P1.2: numbers that are handed in as a list are not changed, nor spare room behind them.
func TestNumbersAreNotChanged(t *testing.T) {
	room := []uint64{1, 2, 3, 77, 78}
	before := slices.Clone(room)
	a, _ := bits.Pack(8, room[:3]...)
	b, _ := bits.Pack(8, room[:3]...)
	a[0] = 9
	if !slices.Equal(room, before) || !slices.Equal(b, []byte{1, 2, 3}) {
		t.Errorf("%v %v", room, b)
	}
}
