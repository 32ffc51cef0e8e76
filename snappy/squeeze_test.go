package snappy_test

import (
	"bytes"
	"math"
	"math/rand/v2"
	"slices"
	"testing"

	"marquetry/api"
	"marquetry/snappy"
)

// P4.2
func TestMost(t *testing.T) {
	for n, want := range map[int]int{
		0: 32, 1: 33, 5: 37, 6: 39, 7: 40, 11: 44, 12: 46, 600: 732, 65536: 76490,
		api.MaxBytes - 1: 1223369, api.MaxBytes: 1223370,
		-1: 0, -6: 0, api.MaxBytes + 1: 0, 1 << 32: 0, math.MinInt: 0, math.MaxInt: 0,
	} {
		if got := snappy.Most(n); got != want {
			t.Errorf("Most(%d): %d, not %d", n, got, want)
		}
	}
}

// squeezed is b's block, if it makes b, has at most Most bytes, and is opened by no lesser bound.
func squeezed(t *testing.T, b []byte) []byte {
	t.Helper()
	s, e := snappy.Squeeze(b)
	if e != api.OK || len(s) > snappy.Most(len(b)) {
		t.Fatalf("Squeeze of %d bytes (%.40x..): %d bytes, %v", len(b), b, len(s), e)
	}
	for _, most := range []int{len(b), api.MaxBytes} {
		if made, e := snappy.Open(s, most); !bytes.Equal(made, b) || e != api.OK {
			t.Fatalf("%d bytes (%.40x..), there and back by %d: %d bytes, %v", len(b), b, most, len(made), e)
		}
	}
	for _, most := range []int{0, len(b) / 2, len(b) - 1} {
		if made, e := snappy.Open(s, most); most >= 0 && most < len(b) && (made != nil || e != api.ErrLong) {
			t.Fatalf("%d bytes (%.40x..), by the bound %d: %d bytes, %v", len(b), b, most, len(made), e)
		}
	}
	if n, e := snappy.Length(s); n != len(b) || e != api.OK {
		t.Fatalf("%d bytes (%.40x..): length %d, %v", len(b), b, n, e)
	}
	if want, why := model(s, len(b)); !bytes.Equal(want, b) || why != api.OK {
		t.Fatalf("%d bytes (%.40x..), there, and back by the chapter's words: %v", len(b), b, why)
	}
	return s
}

// P4.2, P4.3
func TestThereAndBack(t *testing.T) {
	r := rand.New(rand.NewPCG(7, 4))
	for _, different := range []int{1, 2, 3, 5, 16, 256} {
		for n := range 700 {
			squeezed(t, randomBytes(r, n, different))
		}
		for range 200 {
			squeezed(t, randomBytes(r, r.IntN(10000), different))
		}
	}
	for _, s := range []string{"", "a", "abc", "abcd", "abcabcabc", "aaaaaaaa", "abcdabcd", "abcdabc", "abcdeabcd", "\x00\x00\x00\x00\x00"} {
		squeezed(t, []byte(s))
	}
}

// P4.2, P4.3: bytes alike so many, so far back, between bytes of their own.
func TestThereAndBackOfBytesAlike(t *testing.T) {
	r := rand.New(rand.NewPCG(8, 4))
	for _, back := range []int{1, 2, 3, 4, 5, 100, 255, 256, 2046, 2047, 2048, 2049, 65534, 65535, 65536, 65537, 100000} {
		for size := 3; size < 200; size += 1 + back/10000 {
			ahead := randomBytes(r, back, 256)
			squeezed(t, join(again(ahead, size, back), randomBytes(r, size%5, 256)))
		}
	}
}

// P4.2: no bytes lose more than Most lets, whatever stands between the copies.
func TestBytesThatLoseMuch(t *testing.T) {
	r := rand.New(rand.NewPCG(9, 4))
	for _, own := range []int{0, 1, 2, 3, 4, 5, 8, 20, 58, 59, 60, 61, 62, 65, 255, 256, 257, 300, 65535, 65536, 65537} {
		for _, size := range []int{4, 5, 6, 7, 12} {
			for _, back := range []int{5, 300, 2100, 66000} {
				b := randomBytes(r, back, 256)
				for len(b) < min(back+20*(own+size)+2000, 150000) {
					b = append(b, randomBytes(r, own, 256)...)
					b = again(b, size, back)
				}
				squeezed(t, b)
			}
		}
	}
}

// P4.2: numbers of bytes that begin to need another byte.
func TestSqueezeOfBytesWithoutCopies(t *testing.T) {
	r := rand.New(rand.NewPCG(10, 4))
	for _, n := range []int{59, 60, 61, 62, 127, 128, 255, 256, 257, 258, 16383, 16384, 65535, 65536, 65537, api.MaxBytes} {
		squeezed(t, randomBytes(r, n, 256))
	}
}

// P4.2
func TestSqueezeAtTheBound(t *testing.T) {
	for _, b := range [][]byte{times(api.MaxBytes, 'a'), bytes.Repeat([]byte("abcdefgh"), api.MaxBytes/8), randomBytes(rand.New(rand.NewPCG(11, 4)), api.MaxBytes, 4)} {
		squeezed(t, b)
		for _, more := range []int{1, 2, 1 << 20} {
			if s, e := snappy.Squeeze(append(slices.Clone(b), times(more, 'b')...)); s != nil || e != api.ErrLong {
				t.Errorf("Squeeze of %d bytes: %d bytes, %v", len(b)+more, len(s), e)
			}
		}
	}
}

// What is alike, near or far, is copied: a block of it is short.
func TestSqueezeCopies(t *testing.T) {
	r := rand.New(rand.NewPCG(12, 4))
	for _, x := range []struct{ period, most int }{{1, 20}, {3, 20}, {100, 20}, {2000, 20}, {3000, 20}, {60000, 20}, {100000, 12}} {
		b := bytes.Repeat(randomBytes(r, x.period, 256), 10)
		if s := squeezed(t, b); len(s) > x.period+len(b)/x.most+20 {
			t.Errorf("%d bytes ten times: %d bytes", x.period, len(s))
		}
	}
	// Where a copy ends, others that it holds can be copied again.
	words := randomBytes(r, 1000, 256)
	b := join(words, []byte{1}, words, []byte{2}, words[500:], []byte{3}, words[:500], []byte{4})
	if s := squeezed(t, b); len(s) > 1000+2000/15 {
		t.Errorf("1000 bytes thrice, once turned round: %d bytes", len(s))
	}
}

// P4.3
func TestSqueezedAndAByteMoreOrLess(t *testing.T) {
	r := rand.New(rand.NewPCG(13, 4))
	for n := range 300 {
		s := squeezed(t, randomBytes(r, n, 1+n%7))
		if made, e := snappy.Open(s[:len(s)-1], api.MaxBytes); made != nil || e != api.ErrShort {
			t.Errorf("%x without its last byte: %x %v", s, made, e)
		}
		if made, e := snappy.Open(append(s, byte(r.IntN(256))), api.MaxBytes); made != nil || e != api.ErrExtra {
			t.Errorf("%x and a byte behind it: %x %v", s, made, e)
		}
	}
}

func TestSqueezeIsTheSameEachTime(t *testing.T) {
	r := rand.New(rand.NewPCG(14, 4))
	for range 50 {
		b := randomBytes(r, r.IntN(3000), 3)
		first, _ := snappy.Squeeze(b)
		second, _ := snappy.Squeeze(b)
		if !bytes.Equal(first, second) {
			t.Fatalf("Squeeze(%x): %x, then %x", b, first, second)
		}
	}
}

func TestSqueezeChangesAndKeepsNothing(t *testing.T) {
	r := rand.New(rand.NewPCG(15, 4))
	for n := range 100 {
		keepsNothing(t, randomBytes(r, n, 3), func(b []byte) []byte {
			s, _ := snappy.Squeeze(b)
			return s
		})
	}
}
