package gzip_test

import (
	"bytes"
	"compress/flate"
	"compress/gzip"
	"encoding/binary"
	"encoding/hex"
	"hash/crc32"
	"math"
	"math/rand/v2"
	"slices"
	"strings"
	"testing"

	"marquetry/api"
	layer6 "marquetry/flate"
	own "marquetry/gzip"
)

func join(parts ...[]byte) []byte { return slices.Concat(parts...) }

func unhex(s string) []byte {
	b, err := hex.DecodeString(strings.ReplaceAll(s, " ", ""))
	if err != nil {
		panic(err)
	}
	return b
}

// randomBytes are n bytes of so many different ones.
func randomBytes(r *rand.Rand, n, different int) []byte {
	b := make([]byte, n)
	for i := range b {
		b[i] = byte(r.IntN(different))
	}
	return b
}

// with is b with another byte at a place.
func with(b []byte, at int, c byte) []byte {
	b = slices.Clone(b)
	b[at] = c
	return b
}

var head = []byte{0x1f, 0x8b, 8, 0}

// tail is the sum of bytes and how many they are, by another summer.
func tail(made []byte) []byte {
	b := binary.LittleEndian.AppendUint32(nil, crc32.ChecksumIEEE(made))
	return binary.LittleEndian.AppendUint32(b, uint32(len(made)))
}

type row struct {
	stream, made []byte
}

func (x row) frame(idle string) []byte {
	return join(head, []byte(idle), x.stream, tail(x.made))
}

// deflated is a stream of another writer, in blocks that end at places of it.
func deflated(b []byte, level int, ends ...int) []byte {
	var out bytes.Buffer
	w, err := flate.NewWriter(&out, level)
	if err != nil {
		panic(err)
	}
	from := 0
	for _, end := range ends {
		w.Write(b[from:end])
		w.Flush()
		from = end
	}
	w.Write(b[from:])
	w.Close()
	return out.Bytes()
}

func examples() []row {
	return []row{
		{unhex("03 00"), nil},
		{unhex("4b 4c 4a 06 00"), []byte("abc")},
		{unhex("01 00 00 ff ff"), nil},
		{unhex("01 03 00 fc ff 61 62 63"), []byte("abc")},
		{unhex("4b 04 01 00"), []byte("aaaaa")},
	}
}

func rows(r *rand.Rand) []row {
	l := examples()
	for _, n := range []int{0, 1, 2, 10, 255, 256, 257, 1000} {
		for _, different := range []int{1, 2, 50, 256} {
			b := randomBytes(r, n, different)
			for _, level := range []int{flate.NoCompression, flate.BestSpeed, flate.BestCompression, flate.HuffmanOnly} {
				l = append(l, row{deflated(b, level), b}, row{deflated(b, level, n/3, n/2), b})
			}
		}
	}
	b := randomBytes(r, 65537, 50)
	return append(l, row{deflated(b, flate.NoCompression, 65535), b}, row{deflated(b, flate.BestCompression), b})
}

// refused: is it told why, and nothing else?
func refused(t *testing.T, b []byte, most int, want api.Errno) {
	t.Helper()
	if made, e := own.Open(b, most); made != nil || e != want {
		t.Fatalf("Open(%.60x.. (%d bytes), %d): %.40x %v, not %v", b, len(b), most, made, e, want)
	}
}

// P7.1
func TestOpen(t *testing.T) {
	r := rand.New(rand.NewPCG(1, 7))
	for _, x := range rows(r) {
		for _, idle := range []string{"abcdef", "\x00\x00\x00\x00\x00\xff", string(randomBytes(r, 6, 256))} {
			for _, most := range []int{len(x.made), len(x.made) + 1, api.MaxBytes} {
				if made, e := own.Open(x.frame(idle), most); !bytes.Equal(made, x.made) || e != api.OK {
					t.Fatalf("Open(%.60x.., %d): %.40x.. %v", x.frame(idle), most, made, e)
				}
			}
		}
	}
}

// P7.1: the six bytes mean nothing.
func TestOpenWithAnySixBytes(t *testing.T) {
	for at := range 6 {
		for c := range 256 {
			b := with(examples()[1].frame("\x00\x00\x00\x00\x00\x00"), 4+at, byte(c))
			if made, e := own.Open(b, 3); string(made) != "abc" || e != api.OK {
				t.Errorf("Open(%x): %q %v", b, made, e)
			}
		}
	}
}

// P7.1: the table of the chapter.
func TestRefusedExamples(t *testing.T) {
	abc := unhex("1f 8b 08 00 00 00 00 00 00 ff 4b 4c 4a 06 00 c2 41 24 35 03 00 00 00")
	refused(t, with(abc, 15, 0xc3), 3, api.ErrTail)
	refused(t, append(slices.Clone(abc), 0), 3, api.ErrExtra)
	refused(t, abc[:len(abc)-1], 3, api.ErrShort)
	refused(t, unhex("1f 8c"), 3, api.ErrForm)
	refused(t, unhex("1f 8b 08 08"), 3, api.ErrForm)
}

// P7.1: a bound that may not be tells ahead of what is wrong with the frame.
func TestBounds(t *testing.T) {
	abc := examples()[1].frame("abcdef")
	for _, b := range [][]byte{nil, {}, abc, abc[:1], abc[:12], with(abc, 0, 0), with(abc, 10, 7), with(abc, 15, 0), append(slices.Clone(abc), 1)} {
		for _, most := range []int{-1, -2, -api.MaxBytes, api.MaxBytes + 1, 1 << 32, 1<<32 + 3, math.MinInt, math.MaxInt} {
			refused(t, b, most, api.ErrArg)
		}
	}
	for most, want := range []api.Errno{api.ErrLong, api.ErrLong, api.ErrLong, api.OK, api.OK} {
		if _, e := own.Open(abc, most); e != want {
			t.Errorf("by the bound %d: %v", most, e)
		}
	}
	if made, e := own.Open(examples()[0].frame("abcdef"), 0); len(made) != 0 || e != api.OK {
		t.Errorf("nothing, by the bound 0: %x %v", made, e)
	}
}

// P7.1: as many bytes as may be, and one more.
func TestOpenAtTheBound(t *testing.T) {
	r := rand.New(rand.NewPCG(2, 7))
	for _, different := range []int{1, 256} {
		for _, more := range []int{0, 1, 1000} {
			b := randomBytes(r, api.MaxBytes+more, different)
			frame := row{deflated(b, flate.BestSpeed), b}.frame("abcdef")
			if more > 0 {
				refused(t, frame, api.MaxBytes, api.ErrLong)
			} else if made, e := own.Open(frame, api.MaxBytes); !bytes.Equal(made, b) || e != api.OK {
				t.Errorf("%d bytes: %d, %v", len(b), len(made), e)
			}
		}
	}
}

// P7.1: the first four bytes are asked byte by byte, whether more are there or not.
func TestHead(t *testing.T) {
	abc := examples()[1].frame("abcdef")
	for at := range 4 {
		refused(t, abc[:at], 3, api.ErrShort)
		for c := range 256 {
			if byte(c) == abc[at] {
				continue
			}
			b := with(abc, at, byte(c))
			for n := at + 1; n <= len(b); n++ {
				refused(t, b[:n], n%5, api.ErrForm)
			}
			for next := range at {
				refused(t, with(b, next, byte(c+1)), 3, api.ErrForm)
			}
		}
	}
}

// P7.1, P7.3
func TestEachShorterBeginningIsShort(t *testing.T) {
	for _, x := range rows(rand.New(rand.NewPCG(3, 7))) {
		b := x.frame("abcdef")
		for n := range b {
			if n > 40 && n < len(b)-10 && n%(31+len(b)/10) != 0 {
				continue
			}
			refused(t, b[:n], len(x.made), api.ErrShort)
			refused(t, b[:n], api.MaxBytes, api.ErrShort)
		}
	}
}

// P7.1: of the stream what layer 6 says, ahead of what stands behind it.
func TestStream(t *testing.T) {
	for _, x := range []struct {
		stream string
		most   int
		want   api.Errno
	}{
		{"07", 9, api.ErrForm},                      // no kind
		{"01 03 00 fd ff 61 62 63", 9, api.ErrForm}, // n and its other bytes
		{"03 02", 9, api.ErrForm},                   // too far back
		{"01 03 00 fc ff 61 62 63", 2, api.ErrLong},
		{"4b 04 01 00", 4, api.ErrLong},
		{"4b 04 01 00", 0, api.ErrLong},
	} {
		for _, behind := range []string{"", "00 00 00 00 00 00 00 00", "ff ff ff ff ff ff ff ff ff ff"} {
			refused(t, join(head, []byte("abcdef"), unhex(x.stream), unhex(behind)), x.most, x.want)
		}
	}
	// More bytes are made than the bound, ere bytes end too early; and not.
	refused(t, join(head, []byte("abcdef"), unhex("01 03 00 fc ff 61 62 63")), 2, api.ErrLong)
	refused(t, join(head, []byte("abcdef"), unhex("01 03 00 fc ff 61 62")), 2, api.ErrShort)
}

// P7.1, P7.3: each other byte of the last eight, whether more bytes stand behind or not.
func TestTail(t *testing.T) {
	for _, x := range examples() {
		b := x.frame("abcdef")
		for at := len(b) - 8; at < len(b); at++ {
			for c := range 256 {
				if byte(c) == b[at] {
					continue
				}
				wrong := with(b, at, byte(c))
				refused(t, wrong, 9, api.ErrTail)
				refused(t, append(wrong, 0), 9, api.ErrTail)
				for n := at; n < len(b); n++ {
					refused(t, wrong[:n], 9, api.ErrShort)
				}
			}
		}
	}
	// The sum, the number of bytes, or both of other bytes.
	stream := append(slices.Clone(head), "abcdef\x4b\x4c\x4a\x06\x00"...)
	abc, other := tail([]byte("abc")), tail([]byte("abcd"))
	refused(t, join(stream, other), 9, api.ErrTail)
	refused(t, join(stream, abc[:4], other[4:]), 9, api.ErrTail)
	refused(t, join(stream, other[:4], abc[4:]), 9, api.ErrTail)
	refused(t, join(stream, abc[4:], abc[:4]), 9, api.ErrTail)
	reversed := slices.Clone(abc)
	slices.Reverse(reversed[:4])
	slices.Reverse(reversed[4:])
	refused(t, join(stream, reversed), 9, api.ErrTail)
}

// P7.1, P7.3: any byte behind, and a second frame too.
func TestExtra(t *testing.T) {
	for _, x := range rows(rand.New(rand.NewPCG(4, 7))) {
		b := x.frame("abcdef")
		refused(t, append(b, b...), api.MaxBytes, api.ErrExtra)
		for c := 0; c < 256; c += 1 + len(b)/100 {
			refused(t, append(b, byte(c)), len(x.made), api.ErrExtra)
		}
	}
}

// model opens a frame by the chapter's words, byte by byte; the stream by layer 6.
func model(b []byte, most int) ([]byte, api.Errno) {
	if most < 0 || most > api.MaxBytes {
		return nil, api.ErrArg
	}
	for i := range 10 {
		if i == len(b) {
			return nil, api.ErrShort
		}
		if i < 4 && b[i] != head[i] {
			return nil, api.ErrForm
		}
	}
	made, n, e := layer6.Inflate(b[10:], most)
	if e != api.OK {
		return nil, e
	}
	switch last := b[10+n:]; {
	case len(last) < 8:
		return nil, api.ErrShort
	case !bytes.Equal(last[:8], tail(made)):
		return nil, api.ErrTail
	case len(last) > 8:
		return nil, api.ErrExtra
	}
	return made, api.OK
}

func agree(t *testing.T, b []byte, most int) api.Errno {
	t.Helper()
	want, why := model(b, most)
	made, e := own.Open(b, most)
	if !bytes.Equal(made, want) || e != why {
		t.Fatalf("Open(%x, %d): %x %v, not %x %v", b, most, made, e, want, why)
	}
	return e
}

// turned is a frame with a bit turned, a byte put, left out or laid between, or its end left out.
func turned(r *rand.Rand, b []byte) []byte {
	c := slices.Clone(b)
	at := r.IntN(len(c))
	switch r.IntN(6) {
	case 0:
		c[at] = byte(r.IntN(256))
	case 1:
		return slices.Delete(c, at, at+1)
	case 2:
		return slices.Insert(c, at, byte(r.IntN(256)))
	case 3:
		return c[:at]
	case 4:
		return append(c, byte(r.IntN(256)))
	default:
		c[at] ^= 1 << r.IntN(8)
	}
	return c
}

// P7.1
func TestOpenByTheChaptersWords(t *testing.T) {
	r := rand.New(rand.NewPCG(5, 7))
	told := map[api.Errno]int{}
	for range 3000 {
		made := randomBytes(r, r.IntN(40), 1+r.IntN(20))
		b := row{deflated(made, r.IntN(10)), made}.frame(string(randomBytes(r, 6, 256)))
		told[agree(t, b, len(made))]++
		for range 4 {
			b = turned(r, append(b, 0)[:max(len(b), 1)])
			told[agree(t, b, []int{api.MaxBytes, len(made), r.IntN(50), -r.IntN(2)}[r.IntN(4)])]++
		}
		agree(t, randomBytes(r, r.IntN(30), 256), 100)
	}
	for _, e := range []api.Errno{api.OK, api.ErrArg, api.ErrShort, api.ErrForm, api.ErrLong, api.ErrTail, api.ErrExtra} {
		if told[e] < 100 {
			t.Errorf("%v: told %d times alone", e, told[e])
		}
	}
}

// P7.1: frames of another writer, if they have no flags.
func TestOpenWhatAnotherWrote(t *testing.T) {
	r := rand.New(rand.NewPCG(6, 7))
	for range 300 {
		b := randomBytes(r, r.IntN(3000), 1+r.IntN(256))
		var out bytes.Buffer
		w, err := gzip.NewWriterLevel(&out, r.IntN(12)-2)
		if err != nil {
			t.Fatal(err)
		}
		named := r.IntN(4) == 0
		if named {
			w.Name = "a"
		}
		w.Write(b)
		w.Close()
		if named {
			refused(t, out.Bytes(), api.MaxBytes, api.ErrForm)
		} else if made, e := own.Open(out.Bytes(), len(b)); !bytes.Equal(made, b) || e != api.OK {
			t.Fatalf("%x: %x, %v", out.Bytes(), made, e)
		}
	}
}

// keepsNothing: is what is handed in as it was, with the room behind, and does no answer share memory with it or another?
func keepsNothing(t *testing.T, b []byte, call func([]byte) []byte) {
	t.Helper()
	room := append(slices.Clone(b), "behind"...)
	was := slices.Clone(room)
	first, second := call(room[:len(b)]), call(room[:len(b)])
	want := slices.Clone(second)
	for i := range first {
		first[i] ^= 255
	}
	_ = append(first, "more"...)
	if !bytes.Equal(room, was) {
		t.Errorf("%x became %x", was, room)
	}
	for i := range room {
		room[i] ^= 255
	}
	if !bytes.Equal(second, want) {
		t.Errorf("%x: the answer changed from %x to %x", b, want, second)
	}
}

func TestOpenChangesAndKeepsNothing(t *testing.T) {
	for _, x := range rows(rand.New(rand.NewPCG(7, 7))) {
		keepsNothing(t, x.frame("abcdef"), func(b []byte) []byte {
			made, _ := own.Open(b, api.MaxBytes)
			return made
		})
	}
	for n := range 12 {
		keepsNothing(t, examples()[1].frame("abcdef")[:n], func(b []byte) []byte {
			made, _ := own.Open(b, api.MaxBytes)
			return made
		})
	}
}
