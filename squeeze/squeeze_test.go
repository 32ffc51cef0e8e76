package squeeze_test

import (
	"bytes"
	"encoding/hex"
	"math"
	"math/rand/v2"
	"slices"
	"strings"
	"testing"

	"marquetry/api"
	"marquetry/gzip"
	"marquetry/snappy"
	"marquetry/squeeze"
)

// codecs are those that there are, with their names.
var codecs = map[api.Codec]string{0: "none", 1: "snappy", 2: "gzip"}

// noCodecs are numbers of none, also such as are a codec's in fewer bits.
func noCodecs() []api.Codec {
	return []api.Codec{-1, -2, -3, 3, 4, 7, 8, 255, 256, 257, 258, 1 << 31, 1 << 32, 1<<32 + 1, 1<<32 + 2, -1 << 32, math.MinInt, math.MinInt + 1, math.MaxInt}
}

// noSizes are numbers of bytes that may not be.
func noSizes() []int {
	return []int{-1, -2, -3, -api.MaxBytes, api.MaxBytes + 1, 1 << 32, 1<<32 + 3, math.MinInt, math.MaxInt}
}

func unhex(s string) []byte {
	b, err := hex.DecodeString(strings.ReplaceAll(s, " ", ""))
	if err != nil {
		panic(err)
	}
	return b
}

// randomBytes are n bytes of so many different ones.
func randomBytes(r *rand.Rand, n, different int) []byte {
	b := make([]byte, n)
	for i := range b {
		b[i] = byte(r.IntN(different))
	}
	return b
}

// samples are bytes that squeeze well, and not.
func samples(r *rand.Rand) [][]byte {
	l := [][]byte{nil, {}, {0}, []byte("abc"), []byte("abcabcabcabc")}
	for _, different := range []int{1, 2, 20, 256} {
		for _, n := range []int{1, 2, 3, 10, 59, 60, 61, 255, 256, 257, 1000, 65535, 65536} {
			l = append(l, randomBytes(r, n, different))
		}
	}
	return l
}

// layersSqueeze is what the codec's own layer makes of bytes.
func layersSqueeze(c api.Codec, b []byte) ([]byte, api.Errno) {
	switch c {
	case 1:
		return snappy.Squeeze(b)
	case 2:
		return gzip.Squeeze(b)
	}
	if len(b) > api.MaxBytes {
		return nil, api.ErrLong
	}
	return b, api.OK
}

// layersOpen is what the codec's own layer opens.
func layersOpen(c api.Codec, b []byte, most int) ([]byte, api.Errno) {
	switch c {
	case 1:
		return snappy.Open(b, most)
	case 2:
		return gzip.Open(b, most)
	}
	if len(b) > most {
		return nil, api.ErrLong
	}
	return b, api.OK
}

// P8.1
func TestCheckAndName(t *testing.T) {
	for c, want := range codecs {
		if e := squeeze.Check(c); e != api.OK {
			t.Errorf("Check(%d): %v", c, e)
		}
		if got := squeeze.Name(c); got != want {
			t.Errorf("Name(%d): %q, not %q", c, got, want)
		}
	}
	for _, c := range noCodecs() {
		if e := squeeze.Check(c); e != api.ErrCodec {
			t.Errorf("Check(%d): %v", c, e)
		}
		if got := squeeze.Name(c); got != "" {
			t.Errorf("Name(%d): %q", c, got)
		}
	}
}

// P8.1
func TestCodec(t *testing.T) {
	for want, name := range codecs {
		if c, there := squeeze.Codec(name); c != want || !there {
			t.Errorf("Codec(%q): %d %v", name, c, there)
		}
	}
}

// P8.1: no other text is a name, however near.
func TestNoNames(t *testing.T) {
	no := []string{"", " ", "\n", "\xff", "\x00", "0", "1", "2", "zstd", "deflate", "none snappy", "snappy gzip", "none snappy gzip", "nonesnappygzip", strings.Repeat("gzip", 1000)}
	for _, name := range codecs {
		no = append(no, strings.ToUpper(name), strings.ToUpper(name[:1])+name[1:], name[1:], name[:len(name)-1])
		for _, more := range []string{" ", "\n", "\x00", "\xff", "s", name} {
			no = append(no, name+more, more+name)
		}
	}
	for _, name := range no {
		if c, there := squeeze.Codec(name); c != 0 || there {
			t.Errorf("Codec(%q): %d %v", name, c, there)
		}
	}
}

// P8.2
func TestMost(t *testing.T) {
	for _, x := range []struct{ n, none, snappy, gzip int }{
		{0, 0, 32, 24}, {1, 1, 33, 30}, {5, 5, 37, 34}, {6, 6, 39, 35}, {100, 100, 148, 129}, {65535, 65535, 76489, 65564}, {65536, 65536, 76490, 65570},
		{api.MaxBytes - 1, 1048575, 1048575 + 174762 + 32, 1048575 + 85 + 24}, {api.MaxBytes, 1048576, 1048576 + 174762 + 32, 1048576 + 85 + 24},
	} {
		for c, want := range []int{x.none, x.snappy, x.gzip} {
			if got := squeeze.Most(api.Codec(c), x.n); got != want {
				t.Errorf("Most(%d, %d): %d, not %d", c, x.n, got, want)
			}
		}
	}
	for c := range codecs {
		for _, n := range noSizes() {
			if got := squeeze.Most(c, n); got != 0 {
				t.Errorf("Most(%d, %d): %d", c, n, got)
			}
		}
	}
	for _, c := range noCodecs() {
		for _, n := range append(noSizes(), 0, 1, 100, api.MaxBytes) {
			if got := squeeze.Most(c, n); got != 0 {
				t.Errorf("Most(%d, %d): %d", c, n, got)
			}
		}
	}
}

// squeezed is b by a codec, if that is what the codec's own layer makes, and no longer than it may be.
func squeezed(t *testing.T, c api.Codec, b []byte) []byte {
	t.Helper()
	want, _ := layersSqueeze(c, b)
	got, e := squeeze.Squeeze(c, b)
	if !bytes.Equal(got, want) || e != api.OK {
		t.Fatalf("Squeeze(%d, %.40x.. (%d bytes)): %.40x.. (%d bytes) %v, not %.40x.. (%d bytes)", c, b, len(b), got, len(got), e, want, len(want))
	}
	if most := squeeze.Most(c, len(b)); len(got) > most {
		t.Fatalf("Squeeze(%d, %.40x.. (%d bytes)): %d bytes, above %d", c, b, len(b), len(got), most)
	}
	return got
}

// P8.2
func TestSqueeze(t *testing.T) {
	for _, b := range samples(rand.New(rand.NewPCG(1, 8))) {
		for c := range codecs {
			squeezed(t, c, b)
		}
	}
	for c, want := range []string{"616263", "0308616263", "1f8b08000000000000ff4b4c4a0600c241243503000000"} {
		if got := squeezed(t, api.Codec(c), []byte("abc")); !bytes.Equal(got, unhex(want)) {
			t.Errorf("abc by %d: %x, not %s", c, got, want)
		}
	}
}

// P8.2: as many bytes as may be, and more.
func TestSqueezeAtTheBound(t *testing.T) {
	r := rand.New(rand.NewPCG(2, 8))
	for _, different := range []int{1, 256} {
		b := randomBytes(r, api.MaxBytes, different)
		for c := range codecs {
			there(t, c, b)
			for _, more := range []int{1, 2, api.MaxBytes} {
				if got, e := squeeze.Squeeze(c, append(slices.Clone(b), make([]byte, more)...)); got != nil || e != api.ErrLong {
					t.Errorf("by %d, %d bytes more: %d bytes, %v", c, more, len(got), e)
				}
			}
		}
	}
}

// P8.2: no codec tells ahead of bytes that are too many.
func TestSqueezeByNoCodec(t *testing.T) {
	for _, b := range [][]byte{nil, {}, []byte("abc"), make([]byte, api.MaxBytes), make([]byte, api.MaxBytes+1)} {
		for _, c := range noCodecs() {
			if got, e := squeeze.Squeeze(c, b); got != nil || e != api.ErrCodec {
				t.Errorf("Squeeze(%d, %d bytes): %d bytes, %v", c, len(b), len(got), e)
			}
		}
	}
}

func TestSqueezeIsTheSameEachTime(t *testing.T) {
	r := rand.New(rand.NewPCG(3, 8))
	for range 30 {
		b := randomBytes(r, r.IntN(3000), 1+r.IntN(50))
		for c := range codecs {
			if first, second := squeezed(t, c, b), squeezed(t, c, b); !bytes.Equal(first, second) {
				t.Fatalf("Squeeze(%d, %x): %x, then %x", c, b, first, second)
			}
		}
	}
}
