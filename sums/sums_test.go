package sums_test

import (
	"bytes"
	"fmt"
	"hash/crc32"
	"math"
	"math/rand/v2"
	"slices"
	"testing"

	"marquetry/api"
	"marquetry/sums"
)

func join(parts ...[]byte) []byte { return slices.Concat(parts...) }

func times(c byte, n int) []byte { return bytes.Repeat([]byte{c}, n) }

func randomBytes(r *rand.Rand, n int) []byte {
	b := make([]byte, n)
	for i := range b {
		b[i] = byte(r.IntN(256))
	}
	return b
}

// edges are sums of all and of no bits, of each bit alone and of all but one.
func edges() []uint32 {
	l := []uint32{0, math.MaxUint32, 0xcbf43926, 0x2144df1c, 0xedb88320, 0x12345678, 0x9abcdef0}
	for i := range 32 {
		l = append(l, 1<<i, ^(uint32(1) << i))
	}
	return l
}

// stepwise is the chapter's words, a step at a time.
func stepwise(sum uint32, b []byte) uint32 {
	sum = ^sum
	for _, c := range b {
		sum ^= uint32(c)
		for range 8 {
			odd := sum&1 == 1
			sum >>= 1
			if odd {
				sum ^= 0xedb88320
			}
		}
	}
	return ^sum
}

// P2.1
func TestCrc(t *testing.T) {
	for _, x := range []struct {
		b    []byte
		want uint32
	}{
		{nil, 0},
		{[]byte{}, 0},
		{[]byte("123456789"), 0xcbf43926},
		{[]byte{0}, 0xd202ef8d},
		{[]byte{255}, 0xff000000},
		{[]byte("a"), 0xe8b7be43},
		{[]byte("abc"), 0x352441c2},
		{times(255, 4), 0xffffffff},
		{times(0, 4), 0x2144df1c},
		{[]byte("The quick brown fox jumps over the lazy dog"), 0x414fa339},
	} {
		if got := sums.Crc(x.b); got != x.want {
			t.Errorf("Crc(%v): %08x, not %08x", x.b, got, x.want)
		}
	}
}

// P2.1: each byte alone meets each of the sixteen numbers in both halves.
func TestCrcOfEachByte(t *testing.T) {
	for c := range 256 {
		b := []byte{byte(c)}
		if got, want := sums.Crc(b), stepwise(0, b); got != want {
			t.Errorf("Crc(%v): %08x, not %08x", b, got, want)
		}
	}
}

// P2.1
func TestCrcIsThatOfGzip(t *testing.T) {
	r := rand.New(rand.NewPCG(1, 2))
	for n := range 600 {
		b := randomBytes(r, n)
		if got, want := sums.Crc(b), crc32.ChecksumIEEE(b); got != want {
			t.Fatalf("Crc of %d bytes: %08x, not %08x", n, got, want)
		}
	}
}

// P2.1: no bound is named for what is summed.
func TestCrcOfManyBytes(t *testing.T) {
	r := rand.New(rand.NewPCG(2, 2))
	for _, n := range []int{api.MaxBytes, api.MaxBytes + 1, 3 * api.MaxBytes} {
		b := randomBytes(r, n)
		if got, want := sums.Crc(b), crc32.ChecksumIEEE(b); got != want {
			t.Errorf("Crc of %d bytes: %08x, not %08x", n, got, want)
		}
	}
}

// P2.1
func TestUpdate(t *testing.T) {
	for _, x := range []struct {
		sum  uint32
		b    []byte
		want uint32
	}{
		{0xcbf43926, nil, 0xcbf43926},
		{0xcbf43926, []byte{}, 0xcbf43926},
		{0, []byte("123456789"), 0xcbf43926},
		{0xd202ef8d, times(0, 3), 0x2144df1c},
		{0xffffffff, []byte{0}, 0xffffffff},
		{0xfffffffe, []byte{0}, 0xffffffff ^ 0x77073096},
	} {
		if got := sums.Update(x.sum, x.b); got != x.want {
			t.Errorf("Update(%08x, %v): %08x, not %08x", x.sum, x.b, got, x.want)
		}
	}
}

// P2.1: sums that are no Crc of anything at hand go too.
func TestUpdateOfAnySum(t *testing.T) {
	r := rand.New(rand.NewPCG(3, 2))
	l := edges()
	for range 300 {
		l = append(l, r.Uint32())
	}
	for i, sum := range l {
		if got := sums.Update(sum, nil); got != sum {
			t.Errorf("Update(%08x, nothing): %08x", sum, got)
		}
		b := randomBytes(r, 1+i%40)
		if got, want := sums.Update(sum, b), stepwise(sum, b); got != want {
			t.Errorf("Update(%08x, %v): %08x, not %08x", sum, b, got, want)
		}
	}
}

// P2.2
func TestBytes(t *testing.T) {
	for _, x := range []struct {
		sum  uint32
		want []byte
	}{
		{0xcbf43926, []byte{0x26, 0x39, 0xf4, 0xcb}},
		{0, times(0, 4)},
		{1, []byte{1, 0, 0, 0}},
		{0x80000000, []byte{0, 0, 0, 128}},
		{math.MaxUint32, times(255, 4)},
	} {
		if got := sums.Bytes(x.sum); !slices.Equal(got, x.want) {
			t.Errorf("Bytes(%08x): %v", x.sum, got)
		}
	}
}

// P2.2
func TestOf(t *testing.T) {
	for _, x := range []struct {
		b    []byte
		want uint32
		e    api.Errno
	}{
		{[]byte{0x26, 0x39, 0xf4, 0xcb}, 0xcbf43926, api.OK},
		{times(0, 4), 0, api.OK},
		{times(255, 4), math.MaxUint32, api.OK},
		{[]byte{1, 2, 3, 4}, 0x04030201, api.OK},
		{[]byte{0, 0, 0, 128}, 0x80000000, api.OK},
		{nil, 0, api.ErrShort},
		{[]byte{}, 0, api.ErrShort},
		{[]byte{1}, 0, api.ErrShort},
		{[]byte{1, 2, 3}, 0, api.ErrShort},
		{[]byte{1, 2, 3, 4, 5}, 0, api.ErrExtra},
		{[]byte{1, 2, 3, 4, 0}, 0, api.ErrExtra},
		{times(1, 8), 0, api.ErrExtra},
		{times(1, api.MaxBytes), 0, api.ErrExtra},
		{times(1, api.MaxBytes+1), 0, api.ErrExtra},
	} {
		got, e := sums.Of(x.b)
		if got != x.want || e != x.e {
			t.Errorf("Of %d bytes: %08x %v, not %08x %v", len(x.b), got, e, x.want, x.e)
		}
	}
}

// P2.2
func TestBytesThereAndBack(t *testing.T) {
	r := rand.New(rand.NewPCG(4, 2))
	l := edges()
	for range 2000 {
		l = append(l, r.Uint32())
	}
	for _, sum := range l {
		b := sums.Bytes(sum)
		if got, e := sums.Of(b); len(b) != 4 || got != sum || e != api.OK {
			t.Fatalf("Of(%v): %08x %v, not %08x", b, got, e, sum)
		}
		want := randomBytes(r, 4)
		read, e := sums.Of(want)
		if b := sums.Bytes(read); !slices.Equal(b, want) || e != api.OK {
			t.Fatalf("Bytes of what %v was read as: %v %v", want, b, e)
		}
	}
}

// P2.2
func TestText(t *testing.T) {
	for _, x := range []struct {
		sum  uint32
		want string
	}{
		{1, "00000001"},
		{0, "00000000"},
		{0xcbf43926, "cbf43926"},
		{0x01234567, "01234567"},
		{0x89abcdef, "89abcdef"},
		{0x80000000, "80000000"},
		{math.MaxUint32, "ffffffff"},
	} {
		if got := sums.Text(x.sum); got != x.want {
			t.Errorf("Text(%d): %q, not %q", x.sum, got, x.want)
		}
	}
	for _, sum := range edges() {
		if got, want := sums.Text(sum), fmt.Sprintf("%08x", sum); got != want {
			t.Errorf("Text(%d): %q, not %q", sum, got, want)
		}
	}
}

// P2.3
func TestSumOfBothParts(t *testing.T) {
	r := rand.New(rand.NewPCG(5, 2))
	for _, n := range []int{0, 1, 2, 3, 4, 5, 63, 200} {
		b := randomBytes(r, n)
		want := sums.Crc(b)
		for cut := range n + 1 {
			if got := sums.Update(sums.Crc(b[:cut]), b[cut:]); got != want {
				t.Errorf("%d bytes, cut at %d: %08x, not %08x", n, cut, got, want)
			}
		}
	}
}

// P2.3
func TestSumWithItsBytesBehind(t *testing.T) {
	r := rand.New(rand.NewPCG(6, 2))
	for n := range 300 {
		b := randomBytes(r, n)
		sum := sums.Bytes(sums.Crc(b))
		if got := sums.Crc(join(b, sum)); got != 0x2144df1c {
			t.Fatalf("%v and its sum %v: %08x", b, sum, got)
		}
	}
}

// turnBits turns those bits from a place on that are 1 in a pattern, as far as there are bytes.
func turnBits(b []byte, place int, pattern uint32) []byte {
	out := slices.Clone(b)
	for i := range 32 {
		if at := place + i; at < 8*len(b) {
			out[at/8] ^= byte(pattern>>i&1) << (at % 8)
		}
	}
	return out
}

// P2.3
func TestTurnedBitsAreSeen(t *testing.T) {
	r := rand.New(rand.NewPCG(7, 2))
	patterns := []uint32{1, 3, 5, math.MaxUint32, 0x80000001, 0xedb88321, 0xdb710641, 0x04c11db7}
	for range 60 {
		patterns = append(patterns, r.Uint32()|1)
	}
	for _, n := range []int{1, 2, 4, 5, 9, 100} {
		for _, b := range [][]byte{randomBytes(r, n), times(0, n), times(255, n)} {
			sum := sums.Crc(b)
			for place := range 8 * n {
				for _, pattern := range patterns {
					if turned := turnBits(b, place, pattern); sums.Crc(turned) == sum {
						t.Fatalf("%v and %v have one sum", b, turned)
					}
				}
			}
		}
	}
}

// P2.1, P2.2: what is handed in is not changed, spare room included; answers share nothing.
func TestBytesAreNotChanged(t *testing.T) {
	room := []byte{1, 2, 3, 4, 77, 78, 79, 80}
	before := slices.Clone(room)
	sums.Crc(room[:4])
	sums.Update(7, room[:4])
	sums.Of(room[:4])
	sums.Of(room[:3])
	sums.Of(room[:5])
	if !slices.Equal(room, before) {
		t.Errorf("%v", room)
	}
	a := sums.Bytes(0x04030201)
	_ = append(a[:0], 9, 9, 9, 9)
	if b := sums.Bytes(0x04030201); !slices.Equal(b, before[:4]) {
		t.Errorf("%v", b)
	}
}
