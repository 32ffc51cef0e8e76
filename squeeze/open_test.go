package squeeze_test

import (
	"bytes"
	"math/rand/v2"
	"slices"
	"testing"

	"marquetry/api"
	"marquetry/squeeze"
)

// refused: is it told why, and nothing else?
func refused(t *testing.T, c api.Codec, b []byte, size int, want api.Errno) {
	t.Helper()
	if made, e := squeeze.Open(c, b, size); made != nil || e != want {
		t.Fatalf("Open(%d, %.60x.. (%d bytes), %d): %.40x.. %v, not %v", c, b, len(b), size, made, e, want)
	}
}

func opened(t *testing.T, c api.Codec, b, want []byte) {
	t.Helper()
	if made, e := squeeze.Open(c, b, len(want)); !bytes.Equal(made, want) || e != api.OK {
		t.Fatalf("Open(%d, %.60x.. (%d bytes), %d): %.40x.. %v", c, b, len(b), len(want), made, e)
	}
}

// there: does b come back, by its number of bytes, and by no other?
func there(t *testing.T, c api.Codec, b []byte) {
	t.Helper()
	s := squeezed(t, c, b)
	opened(t, c, s, b)
	if n := len(b); n > 0 {
		refused(t, c, s, n-1, api.ErrLong)
		refused(t, c, s, n/2, api.ErrLong)
		refused(t, c, s, 0, api.ErrLong)
	}
	if n := len(b); n < api.MaxBytes {
		refused(t, c, s, n+1, api.ErrSize)
		refused(t, c, s, (n+api.MaxBytes+1)/2, api.ErrSize)
		refused(t, c, s, api.MaxBytes, api.ErrSize)
	}
	refused(t, c, s, -1, api.ErrArg)
	refused(t, c, s, api.MaxBytes+1, api.ErrArg)
}

// P8.4
func TestThereAndBack(t *testing.T) {
	r := rand.New(rand.NewPCG(4, 8))
	for _, b := range samples(r) {
		for c := range codecs {
			there(t, c, b)
		}
	}
	for range 300 {
		b := randomBytes(r, r.IntN(300), 1+r.IntN(256))
		for c := range codecs {
			there(t, c, b)
		}
	}
}

// P8.4: each other number of bytes.
func TestOtherSizes(t *testing.T) {
	b := []byte("abcabcabcabcxyz")
	for c := range codecs {
		s := squeezed(t, c, b)
		for size := range 100 {
			switch {
			case size < len(b):
				refused(t, c, s, size, api.ErrLong)
			case size == len(b):
				opened(t, c, s, b)
			default:
				refused(t, c, s, size, api.ErrSize)
			}
		}
	}
}

// P8.3: the table of the chapter.
func TestOpenExamples(t *testing.T) {
	abc, block := []byte("abc"), unhex("03 08 61 62 63")
	opened(t, api.CodecNone, abc, abc)
	refused(t, api.CodecNone, abc, 2, api.ErrLong)
	refused(t, api.CodecNone, abc, 4, api.ErrSize)
	refused(t, 7, abc, 3, api.ErrCodec)
	refused(t, api.CodecNone, abc, -1, api.ErrArg)
	opened(t, api.CodecSnappy, block, abc)
	refused(t, api.CodecSnappy, block, 2, api.ErrLong)
	refused(t, api.CodecSnappy, block, 4, api.ErrSize)
}

// P8.3: as many bytes as may be, and more.
func TestOpenNoneAtTheBound(t *testing.T) {
	b := randomBytes(rand.New(rand.NewPCG(5, 8)), api.MaxBytes+1, 256)
	opened(t, api.CodecNone, b[:api.MaxBytes], b[:api.MaxBytes])
	refused(t, api.CodecNone, b, api.MaxBytes, api.ErrLong)
	refused(t, api.CodecNone, b, api.MaxBytes+1, api.ErrArg)
}

// P8.3: no codec tells ahead of a size that may not be, that ahead of what is wrong with the bytes.
func TestOpenByNoCodecOrSize(t *testing.T) {
	for _, b := range [][]byte{nil, {}, []byte("abc"), unhex("03 08 61 62 63"), unhex("03 08"), unhex("1f 8c"), make([]byte, api.MaxBytes+1)} {
		for _, c := range noCodecs() {
			for _, size := range append(noSizes(), 0, 3, api.MaxBytes) {
				refused(t, c, b, size, api.ErrCodec)
			}
		}
		for c := range codecs {
			for _, size := range noSizes() {
				refused(t, c, b, size, api.ErrArg)
			}
		}
	}
}

// P8.3: the codec's own errors, ahead of fewer bytes than the size.
func TestTheCodecsOwnErrors(t *testing.T) {
	const head = "1f 8b 08 00 00 00 00 00 00 ff "
	for _, x := range []struct {
		codec api.Codec
		b     string
		size  int
		want  api.Errno
	}{
		{1, "", 0, api.ErrShort},
		{1, "80", 0, api.ErrShort},
		{1, "80 00", 0, api.ErrForm},
		{1, "03 08 61 62", 3, api.ErrShort},
		{1, "03 08 61 62", 4, api.ErrShort},
		{1, "03 08 61 62", 2, api.ErrLong},
		{1, "01 01 00", 1, api.ErrForm},
		{1, "01 01 00", 9, api.ErrForm},
		{1, "02 08 61 62 63", 9, api.ErrForm},
		{1, "02 08 61 62 63", 1, api.ErrLong},
		{1, "01 00 61 00", 9, api.ErrExtra},
		{1, "ff ff ff ff 0f", api.MaxBytes, api.ErrLong},
		{2, "", 0, api.ErrShort},
		{2, "1f 8c", 9, api.ErrForm},
		{2, "1f 8b 08 08", 9, api.ErrForm},
		{2, head + "4b 4c 4a 06 00 c2 41 24 35 03 00 00", 3, api.ErrShort},
		{2, head + "4b 4c 4a 06 00 c2 41 24 35 03 00 00", 9, api.ErrShort},
		{2, head + "4b 4c 4a 06 00 c3 41 24 35 03 00 00 00", 3, api.ErrTail},
		{2, head + "4b 4c 4a 06 00 c3 41 24 35 03 00 00 00", 9, api.ErrTail},
		{2, head + "4b 4c 4a 06 00 c3 41 24 35 03 00 00 00", 2, api.ErrLong},
		{2, head + "4b 4c 4a 06 00 c2 41 24 35 03 00 00 00 00", 9, api.ErrExtra},
		{2, head + "4b 4c 4a 06 00 c2 41 24 35 03 00 00 00", 9, api.ErrSize},
		{2, head + "03 00 00 00 00 00 00 00 00 00", 1, api.ErrSize},
	} {
		refused(t, x.codec, unhex(x.b), x.size, x.want)
	}
}

// P8.3: each codec opens what is its own alone.
func TestOneCodecsBytesByAnother(t *testing.T) {
	abc := []byte("abc")
	refused(t, api.CodecNone, squeezed(t, api.CodecSnappy, abc), 3, api.ErrLong)
	refused(t, api.CodecNone, squeezed(t, api.CodecGzip, abc), 3, api.ErrLong)
	refused(t, api.CodecGzip, squeezed(t, api.CodecSnappy, abc), 3, api.ErrForm)
	refused(t, api.CodecSnappy, squeezed(t, api.CodecGzip, abc), 31, api.ErrForm)
	for c := range codecs {
		s := squeezed(t, c, abc)
		opened(t, api.CodecNone, s, s)
	}
}

// turned is b with a bit turned, a byte put, left out or laid between, or its end left out.
func turned(r *rand.Rand, b []byte) []byte {
	c := slices.Clone(b)
	if len(c) == 0 {
		return []byte{byte(r.IntN(256))}
	}
	at := r.IntN(len(c))
	switch r.IntN(6) {
	case 0:
		c[at] = byte(r.IntN(256))
	case 1:
		return slices.Delete(c, at, at+1)
	case 2:
		return slices.Insert(c, at, byte(r.IntN(256)))
	case 3:
		return c[:at]
	case 4:
		return append(c, byte(r.IntN(256)))
	default:
		c[at] ^= 1 << r.IntN(8)
	}
	return c
}

// agree: is it opened as the chapter's words say, by what the codec's own layer tells?
func agree(t *testing.T, c api.Codec, b []byte, size int) api.Errno {
	t.Helper()
	if _, known := codecs[c]; !known {
		refused(t, c, b, size, api.ErrCodec)
		return api.ErrCodec
	}
	if size < 0 || size > api.MaxBytes {
		refused(t, c, b, size, api.ErrArg)
		return api.ErrArg
	}
	made, e := layersOpen(c, b, size)
	if e == api.OK && len(made) != size {
		e = api.ErrSize
	}
	if e == api.OK {
		opened(t, c, b, made)
	} else {
		refused(t, c, b, size, e)
	}
	return e
}

// P8.3
func TestOpenByTheChaptersWords(t *testing.T) {
	r := rand.New(rand.NewPCG(6, 8))
	told := map[api.Errno]int{}
	for range 4000 {
		c := api.Codec(r.IntN(3))
		made := randomBytes(r, r.IntN(40), 1+r.IntN(20))
		b := squeezed(t, c, made)
		told[agree(t, c, b, len(made))]++
		for range 4 {
			told[agree(t, c, b, len(made)+r.IntN(5)-2)]++
			b = turned(r, b)
			told[agree(t, c, b, len(made))]++
			told[agree(t, api.Codec(r.IntN(5)-1), b, r.IntN(50))]++
		}
	}
	for _, e := range []api.Errno{api.OK, api.ErrCodec, api.ErrArg, api.ErrLong, api.ErrShort, api.ErrForm, api.ErrTail, api.ErrExtra, api.ErrSize} {
		if told[e] < 100 {
			t.Errorf("%v: told %d times alone", e, told[e])
		}
	}
}

// keepsNothing: is what is handed in as it was, with the room behind, and does no answer share memory with it or another?
func keepsNothing(t *testing.T, b []byte, call func([]byte) []byte) {
	t.Helper()
	room := append(slices.Clone(b), "behind"...)
	was := slices.Clone(room)
	first, second := call(room[:len(b)]), call(room[:len(b)])
	want := slices.Clone(second)
	for i := range first {
		first[i] ^= 255
	}
	_ = append(first, "more"...)
	if !bytes.Equal(room, was) {
		t.Errorf("%x became %x", was, room)
	}
	for i := range room {
		room[i] ^= 255
	}
	if !bytes.Equal(second, want) {
		t.Errorf("%x: the answer changed from %x to %x", b, want, second)
	}
}

func TestNothingIsChangedOrKept(t *testing.T) {
	r := rand.New(rand.NewPCG(7, 8))
	for n := range 60 {
		b := randomBytes(r, n, 3)
		for c := range codecs {
			keepsNothing(t, b, func(b []byte) []byte {
				s, _ := squeeze.Squeeze(c, b)
				return s
			})
			s := squeezed(t, c, b)
			for _, l := range [][]byte{s, turned(r, s)} {
				keepsNothing(t, l, func(l []byte) []byte {
					made, _ := squeeze.Open(c, l, n)
					return made
				})
			}
		}
	}
}
