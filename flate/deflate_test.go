package flate_test

import (
	"bytes"
	"compress/flate"
	"io"
	"math"
	"math/rand/v2"
	"slices"
	"strings"
	"testing"

	"marquetry/api"
	own "marquetry/flate"
)

// P6.2
func TestMost(t *testing.T) {
	for n, want := range map[int]int{
		0: 6, 1: 12, 2: 13, 100: 111, 65534: 65545, 65535: 65546, 65536: 65552, 131070: 131086, 131071: 131092,
		api.MaxBytes - 1: 1048575 + 85 + 6, api.MaxBytes: 1048576 + 85 + 6,
		-1: 0, -65535: 0, api.MaxBytes + 1: 0, 1 << 32: 0, math.MinInt: 0, math.MaxInt: 0,
	} {
		if got := own.Most(n); got != want {
			t.Errorf("Most(%d): %d, not %d", n, got, want)
		}
	}
}

// deflated is b's stream, if it makes b, whatever stands behind, has at most Most bytes, and is inflated by no lesser bound.
func deflated(t *testing.T, b []byte) []byte {
	t.Helper()
	s, e := own.Deflate(b)
	if e != api.OK || len(s) > own.Most(len(b)) {
		t.Fatalf("Deflate of %d bytes (%.40x..): %d bytes, %v", len(b), b, len(s), e)
	}
	for _, behind := range []string{"", "\x00", "\xff\xff\xff"} {
		made, size, e := own.Inflate(append(slices.Clone(s), behind...), len(b))
		if !bytes.Equal(made, b) || size != len(s) || e != api.OK {
			t.Fatalf("%d bytes (%.40x..), there and back, with %x behind: %d bytes, %d of %d, %v", len(b), b, behind, len(made), size, len(s), e)
		}
	}
	for _, most := range []int{0, len(b) / 2, len(b) - 1} {
		if made, size, e := own.Inflate(s, most); most >= 0 && most < len(b) && (made != nil || size != 0 || e != api.ErrLong) {
			t.Fatalf("%d bytes (%.40x..), by the bound %d: %d bytes, %d, %v", len(b), b, most, len(made), size, e)
		}
	}
	rest := bytes.NewReader(s)
	if made, err := io.ReadAll(flate.NewReader(rest)); !bytes.Equal(made, b) || err != nil || rest.Len() > 0 {
		t.Fatalf("%d bytes (%.40x..), there, and back by another reader: %d bytes, %d left, %v", len(b), b, len(made), rest.Len(), err)
	}
	return s
}

// P6.2, P6.3
func TestThereAndBack(t *testing.T) {
	r := rand.New(rand.NewPCG(7, 6))
	for _, different := range []int{1, 2, 3, 5, 16, 100, 256} {
		for n := range 300 {
			deflated(t, randomBytes(r, n, different))
		}
		for range 20 {
			deflated(t, randomBytes(r, r.IntN(20000), different))
		}
	}
	for _, s := range []string{"", "a", "ab", "abc", "aaa", "aaaa", "abcabc", "abcabcabc", "\x00\x00\x00\x00", "abcdabcdabcd"} {
		deflated(t, []byte(s))
	}
}

// P6.2, P6.3: bytes around those that a block makes.
func TestThereAndBackAtTheEndsOfBlocks(t *testing.T) {
	r := rand.New(rand.NewPCG(8, 6))
	for _, different := range []int{1, 2, 30, 256} {
		for _, n := range []int{65533, 65534, 65535, 65536, 65537, 65538, 131069, 131070, 131071, 131073} {
			deflated(t, randomBytes(r, n, different))
		}
	}
	// What is alike goes on beyond a block's end.
	text := randomBytes(r, 700, 256)
	deflated(t, bytes.Repeat(text, 200))
	deflated(t, join(randomBytes(r, 65000, 256), bytes.Repeat(text[:257], 5), randomBytes(r, 65000, 256)))
}

// P6.2, P6.3: bytes alike so many, so far back, between bytes of their own.
func TestThereAndBackOfBytesAlike(t *testing.T) {
	r := rand.New(rand.NewPCG(9, 6))
	for _, back := range []int{1, 2, 3, 4, 5, 6, 7, 8, 9, 12, 13, 16, 17, 24, 25, 100, 256, 257, 4095, 4096, 4097, 8192, 8193, 24576, 24577, 32767, 32768, 32769, 40000} {
		for size := 2; size < 600; size += 1 + size/40 + back/60 {
			ahead := randomBytes(r, back, 256)
			deflated(t, join(again(ahead, size, back), randomBytes(r, size%5, 256)))
		}
	}
	for size := 3; size < 300; size++ {
		deflated(t, join(again([]byte("abc"), size, 3), []byte("!"), again([]byte("abcd"), size, 4)))
	}
}

// P6.2, P6.3: blocks of each kind behind each other, that end with any bit.
func TestThereAndBackOfManyBlocks(t *testing.T) {
	r := rand.New(rand.NewPCG(10, 6))
	for range 12 {
		var b []byte
		for range 1 + r.IntN(4) {
			b = append(b, randomBytes(r, 65535-r.IntN(2)*r.IntN(20), []int{1, 2, 50, 256, 256}[r.IntN(5)])...)
		}
		deflated(t, b)
	}
}

// P6.2: bytes with few copies, of nearly all kinds: no stream is longer than Most.
func TestBytesThatAreNotSqueezed(t *testing.T) {
	r := rand.New(rand.NewPCG(11, 6))
	for _, n := range []int{1, 2, 3, 10, 143, 144, 1000, 65534, 65535, 65536, 200000, api.MaxBytes} {
		b := randomBytes(r, n, 256)
		if s := deflated(t, b); len(s) > n+5*((n+65534)/65535) {
			t.Errorf("%d random bytes: %d bytes", n, len(s))
		}
		for i := range b {
			b[i] = 255 - b[i]%112 // each of them has nine bits in a fixed block
		}
		deflated(t, b)
	}
}

// P6.2: counts that rise so steeply that codes would have more than 15 bits, or those of lengths more than 7.
func TestSteepCounts(t *testing.T) {
	var b []byte
	for n, size := 0, [2]int{1, 1}; n < 23; n++ {
		b = append(b, times(size[0], byte(n))...)
		size = [2]int{size[1], size[0] + size[1]}
	}
	r := rand.New(rand.NewPCG(12, 6))
	r.Shuffle(len(b), func(i, j int) { b[i], b[j] = b[j], b[i] })
	deflated(t, b[:65535])
	deflated(t, b)
}

// P6.2
func TestDeflateAtTheBound(t *testing.T) {
	for _, b := range [][]byte{times(api.MaxBytes, byte('a')), bytes.Repeat([]byte("abcdefgh"), api.MaxBytes/8), randomBytes(rand.New(rand.NewPCG(13, 6)), api.MaxBytes, 4)} {
		deflated(t, b)
		for _, more := range []int{1, 2, 1 << 20} {
			if s, e := own.Deflate(append(slices.Clone(b), times(more, byte('b'))...)); s != nil || e != api.ErrLong {
				t.Errorf("Deflate of %d bytes: %d bytes, %v", len(b)+more, len(s), e)
			}
		}
	}
}

// What is alike is copied, and what is often has few bits: a stream of it is short.
func TestDeflateSqueezes(t *testing.T) {
	r := rand.New(rand.NewPCG(14, 6))
	for _, x := range []struct {
		b    []byte
		most int
	}{
		{nil, 2},
		{times(api.MaxBytes, byte(0)), api.MaxBytes / 500},
		{randomBytes(r, 60000, 2), 60000/8 + 3000},
		{randomBytes(r, 60000, 16), 60000/2 + 6000},
		{bytes.Repeat(randomBytes(r, 30000, 256), 2), 30000 + 1500},
		{[]byte(strings.Repeat("what is alike is copied, and what is often has few bits. ", 50)), 100},
	} {
		if s := deflated(t, x.b); len(s) > x.most {
			t.Errorf("%d bytes (%.40q..): %d bytes, more than %d", len(x.b), x.b, len(s), x.most)
		}
	}
}

// P6.3
func TestDeflatedAndShorter(t *testing.T) {
	r := rand.New(rand.NewPCG(15, 6))
	for n := range 300 {
		b := randomBytes(r, n, 1+n%17)
		s := deflated(t, b)
		for k := range s {
			if made, size, e := own.Inflate(s[:k], api.MaxBytes); made != nil || size != 0 || e != api.ErrShort {
				t.Fatalf("%d bytes of %x: %x %d %v", k, s, made, size, e)
			}
		}
		agree(t, s, n)
		for range 5 {
			agree(t, turned(r, s), 2*n)
		}
	}
}

func TestDeflateIsTheSameEachTime(t *testing.T) {
	r := rand.New(rand.NewPCG(16, 6))
	for range 30 {
		b := randomBytes(r, r.IntN(5000), 1+r.IntN(50))
		first, _ := own.Deflate(b)
		second, _ := own.Deflate(b)
		if !bytes.Equal(first, second) {
			t.Fatalf("Deflate(%x): %x, then %x", b, first, second)
		}
	}
}

func TestDeflateChangesAndKeepsNothing(t *testing.T) {
	r := rand.New(rand.NewPCG(17, 6))
	for n := range 100 {
		keepsNothing(t, randomBytes(r, n, 3), func(b []byte) []byte {
			s, _ := own.Deflate(b)
			return s
		})
	}
}
