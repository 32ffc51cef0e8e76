package gzip_test

import (
	"bytes"
	"compress/gzip"
	"io"
	"math"
	"math/rand/v2"
	"slices"
	"testing"

	"marquetry/api"
	layer6 "marquetry/flate"
	own "marquetry/gzip"
)

// P7.2
func TestMost(t *testing.T) {
	for n, want := range map[int]int{
		0: 24, 1: 30, 2: 31, 100: 129, 65534: 65563, 65535: 65564, 65536: 65570, 131070: 131104, 131071: 131110,
		api.MaxBytes - 1: 1048575 + 85 + 6 + 18, api.MaxBytes: 1048576 + 85 + 6 + 18,
		-1: 0, -65535: 0, api.MaxBytes + 1: 0, 1 << 32: 0, math.MinInt: 0, math.MaxInt: 0,
	} {
		if got := own.Most(n); got != want {
			t.Errorf("Most(%d): %d, not %d", n, got, want)
		}
	}
}

// squeezed is b's frame, if it is laid as the chapter says and makes b.
func squeezed(t *testing.T, b []byte) []byte {
	t.Helper()
	frame, e := own.Squeeze(b)
	if e != api.OK || len(frame) < 18 || len(frame) > own.Most(len(b)) {
		t.Fatalf("Squeeze of %d bytes (%.40x..): %d bytes, %v", len(b), b, len(frame), e)
	}
	if want := unhex("1f 8b 08 00 00 00 00 00 00 ff"); !bytes.Equal(frame[:10], want) {
		t.Fatalf("%d bytes (%.40x..): the frame begins with %x", len(b), b, frame[:10])
	}
	if last := frame[len(frame)-8:]; !bytes.Equal(last, tail(b)) {
		t.Fatalf("%d bytes (%.40x..): the frame ends with %x", len(b), b, last)
	}
	made, size, e := layer6.Inflate(frame[10:len(frame)-8], len(b))
	if !bytes.Equal(made, b) || size != len(frame)-18 || e != api.OK {
		t.Fatalf("%d bytes (%.40x..): the stream makes %d, with %d bytes, %v", len(b), b, len(made), size, e)
	}
	if made, e := own.Open(frame, len(b)); !bytes.Equal(made, b) || e != api.OK {
		t.Fatalf("%d bytes (%.40x..), there and back: %d bytes, %v", len(b), b, len(made), e)
	}
	return frame
}

// openedByAnother: does another reader tell the bytes?
func openedByAnother(t *testing.T, frame, want []byte) {
	t.Helper()
	rest := bytes.NewReader(frame)
	r, err := gzip.NewReader(rest)
	if err != nil {
		t.Fatalf("%.40x..: %v", frame, err)
	}
	r.Multistream(false)
	if made, err := io.ReadAll(r); !bytes.Equal(made, want) || err != nil || rest.Len() > 0 {
		t.Fatalf("%.40x..: %d bytes, not %d; %d left, %v", frame, len(made), len(want), rest.Len(), err)
	}
}

// P7.2, P7.3
func TestThereAndBack(t *testing.T) {
	r := rand.New(rand.NewPCG(8, 7))
	for _, different := range []int{1, 2, 5, 100, 256} {
		for n := range 200 {
			b := randomBytes(r, n, different)
			openedByAnother(t, squeezed(t, b), b)
		}
		for _, n := range []int{65534, 65535, 65536, 131071} {
			b := randomBytes(r, n, different)
			openedByAnother(t, squeezed(t, b), b)
		}
	}
}

// P7.2, P7.3: as many bytes as may be, and more.
func TestSqueezeAtTheBound(t *testing.T) {
	r := rand.New(rand.NewPCG(9, 7))
	for _, different := range []int{1, 4, 256} {
		b := randomBytes(r, api.MaxBytes, different)
		frame := squeezed(t, b)
		refused(t, frame, api.MaxBytes-1, api.ErrLong)
		refused(t, append(frame, 0), api.MaxBytes, api.ErrExtra)
		for _, more := range []int{1, 2, api.MaxBytes} {
			if frame, e := own.Squeeze(append(slices.Clone(b), make([]byte, more)...)); frame != nil || e != api.ErrLong {
				t.Errorf("%d bytes more: %d bytes, %v", more, len(frame), e)
			}
		}
	}
}

// P7.3
func TestWhatFollows(t *testing.T) {
	r := rand.New(rand.NewPCG(10, 7))
	for n := range 120 {
		b := randomBytes(r, n, 1+n%17)
		frame := squeezed(t, b)
		for most := range n {
			refused(t, frame, most, api.ErrLong)
		}
		for k := range frame {
			refused(t, frame[:k], n, api.ErrShort)
		}
		for c := range 256 {
			refused(t, append(slices.Clone(frame), byte(c)), n, api.ErrExtra)
		}
		for at := len(frame) - 8; at < len(frame); at++ {
			for range 10 {
				refused(t, with(frame, at, frame[at]^byte(1+r.IntN(255))), n, api.ErrTail)
			}
		}
	}
}

func TestSqueezeOfNothing(t *testing.T) {
	first, second := squeezed(t, nil), squeezed(t, []byte{})
	if !bytes.Equal(first, second) {
		t.Errorf("%x, %x", first, second)
	}
	for most := range 2 {
		if made, e := own.Open(first, most); len(made) != 0 || e != api.OK {
			t.Errorf("%x %v", made, e)
		}
	}
}

func TestSqueezeIsTheSameEachTime(t *testing.T) {
	r := rand.New(rand.NewPCG(11, 7))
	for range 30 {
		b := randomBytes(r, r.IntN(3000), 1+r.IntN(50))
		if first, second := squeezed(t, b), squeezed(t, b); !bytes.Equal(first, second) {
			t.Fatalf("Squeeze(%x): %x, then %x", b, first, second)
		}
	}
}

func TestSqueezeChangesAndKeepsNothing(t *testing.T) {
	r := rand.New(rand.NewPCG(12, 7))
	for n := range 60 {
		keepsNothing(t, randomBytes(r, n, 3), func(b []byte) []byte {
			frame, _ := own.Squeeze(b)
			return frame
		})
	}
}
