package snappy_test

import (
	"bytes"
	"encoding/hex"
	"math"
	"math/rand/v2"
	"slices"
	"strings"
	"testing"

	"marquetry/api"
	"marquetry/snappy"
)

func join(parts ...[]byte) []byte { return slices.Concat(parts...) }

func times(n int, c byte) []byte { return bytes.Repeat([]byte{c}, n) }

func unhex(s string) []byte {
	b, err := hex.DecodeString(strings.ReplaceAll(s, " ", ""))
	if err != nil {
		panic(err)
	}
	return b
}

// randomBytes are n bytes of so many different ones.
func randomBytes(r *rand.Rand, n, different int) []byte {
	b := make([]byte, n)
	for i := range b {
		b[i] = byte(r.IntN(different))
	}
	return b
}

// number is n by the chapter's words.
func number(n int) []byte {
	var b []byte
	for ; n > 127; n >>= 7 {
		b = append(b, byte(n&127|128))
	}
	return append(b, byte(n))
}

func low(n, size int) []byte {
	var b []byte
	for range size {
		b = append(b, byte(n))
		n >>= 8
	}
	return b
}

// text is a part of bytes whose number has so many bytes (0: it stands in the first).
func text(size int, b []byte) []byte {
	if size == 0 {
		return join([]byte{byte((len(b) - 1) << 2)}, b)
	}
	return join([]byte{byte((59 + size) << 2)}, low(len(b)-1, size), b)
}

func near(size, back int) []byte {
	return []byte{byte(back>>8<<5 | (size-4)<<2 | 1), byte(back)}
}

func middle(size, back int) []byte {
	return join([]byte{byte((size-1)<<2 | 2)}, low(back, 2))
}

func far(size, back int) []byte {
	return join([]byte{byte((size-1)<<2 | 3)}, low(back, 4))
}

// block is parts behind the number of bytes that they make.
func block(made int, parts ...[]byte) []byte {
	return join(number(made), join(parts...))
}

// again is b and so many bytes behind it, each the same as that so far back.
func again(b []byte, size, back int) []byte {
	b = slices.Clone(b)
	for range size {
		b = append(b, b[len(b)-back])
	}
	return b
}

type row struct {
	block, made []byte
}

func examples() []row {
	return []row{
		{unhex("00"), nil},
		{unhex("03 08 61 62 63"), []byte("abc")},
		{unhex("09 08 61 62 63 09 03"), []byte("abcabcabc")},
		{unhex("05 00 61 0e 01 00"), []byte("aaaaa")},
	}
}

// texts are blocks of a part of bytes, their number as short as can be or not.
func texts(r *rand.Rand) []row {
	var l []row
	for _, n := range []int{1, 2, 3, 4, 59, 60, 61, 255, 256, 257, 65535, 65536, 65537, api.MaxBytes} {
		b := randomBytes(r, n, 256)
		for size, most := range []int{60, 1 << 8, 1 << 16, 1 << 24, 1 << 32} {
			if n <= most {
				l = append(l, row{block(n, text(size, b)), b})
			}
		}
	}
	return l
}

// copies are blocks of bytes and one copy behind them, of each size and of backs at the edges.
func copies(r *rand.Rand) []row {
	var l []row
	b := randomBytes(r, 70000, 256)
	add := func(size, back int, part []byte) {
		ahead := b[:back]
		if back%3 == 0 {
			ahead = b[:back+1]
		}
		l = append(l, row{block(len(ahead)+size, text(3, ahead), part), again(ahead, size, back)})
	}
	for _, back := range []int{1, 2, 3, 4, 5, 7, 11, 63, 64, 65, 255, 256, 257, 511, 512, 1791, 1792, 2047, 2048, 65535, 65536, 65537, 69999} {
		for size := 1; size <= 64; size++ {
			if back < 2048 && size >= 4 && size <= 11 {
				add(size, back, near(size, back))
			}
			if back < 65536 {
				add(size, back, middle(size, back))
			}
			add(size, back, far(size, back))
		}
	}
	return l
}

func joined() []row {
	return []row{
		{block(3, text(0, []byte("a")), text(1, []byte("b")), text(4, []byte("c"))), []byte("abc")},
		{block(8, text(0, []byte("ab")), middle(1, 2), middle(1, 2), near(4, 3)), []byte("ababbabb")},
		{block(7, text(0, []byte("abc")), far(2, 3), text(0, []byte("d")), middle(1, 6)), []byte("abcabda")},
	}
}

func opened(r *rand.Rand) []row {
	return slices.Concat(examples(), joined(), texts(r), copies(r))
}

// P4.1
func TestOpen(t *testing.T) {
	for _, x := range opened(rand.New(rand.NewPCG(1, 4))) {
		for _, most := range []int{len(x.made), min(len(x.made)+1, api.MaxBytes), api.MaxBytes} {
			if made, e := snappy.Open(x.block, most); !bytes.Equal(made, x.made) || e != api.OK {
				t.Errorf("Open(%.20x.., %d): %.20x.. %v", x.block, most, made, e)
			}
		}
	}
}

// P4.1: bytes that end too early.
func shortOnes() []string {
	return []string{
		"", "03", "03 08 61", "80",
		"ff", "80 80", "ff ff", "80 80 80 80", "ff ff ff ff",
		"01", "03 08", "03 08 61 62", "02 00 61", "04 08 61 62 63",
		// A part's number.
		"01 f0", "01 f4", "01 f4 00", "01 f8 00 00", "01 fc 00 00 00", "01 f4 ff", "01 f8 ff ff", "01 fc ff ff ff",
		"01 f0 00", "01 f4 00 00", "01 f8 00 00 00", "01 fc 00 00 00 00", "03 f0 02 61 62",
		// How far back: asked for ahead of what can't be.
		"01 01", "01 02", "01 02 00", "01 03", "01 03 00", "01 03 00 00", "01 03 00 00 00", "01 ff ff ff ff", "01 fd", "01 fe", "01 fe ff",
		"02 00 61 fd", "02 00 61 fe 01", "02 00 61 ff 01 00 00",
		// Behind a copy.
		"06 00 61 01 01", "06 00 61 01 01 00", "06 00 61 0e 01 00 01",
	}
}

func wrongOnes() []string {
	return []string{
		"80 00", "01 01 00", "02 08 61 62 63",
		// Numbers in more bytes than they need, and above 2^32 - 1.
		"ff 00", "80 80 00", "ff ff 00", "80 80 80 00", "80 80 80 80 00", "ff ff ff ff 00",
		"80 80 80 80 10", "ff ff ff ff 10", "80 80 80 80 7f", "80 80 80 80 80", "80 80 80 80 81", "ff ff ff ff 8f", "80 80 80 80 80 00", "80 80 80 80 80 01", "ff ff ff ff ff ff ff ff ff 01",
		// From 0 bytes back, and from ahead of the first.
		"04 01 00", "04 01 01", "01 02 00 00", "01 02 01 00", "01 03 00 00 00 00", "01 03 01 00 00 00",
		"05 00 61 01 00", "05 00 61 01 02", "05 00 61 21 00", "05 00 61 e1 01", "02 00 61 02 00 00", "02 00 61 02 02 00", "02 00 61 02 00 01", "02 00 61 02 ff ff",
		"02 00 61 03 00 00 00 00", "02 00 61 03 02 00 00 00", "02 00 61 03 01 01 00 00", "02 00 61 03 01 00 01 00", "02 00 61 03 01 00 00 01", "02 00 61 03 ff ff ff ff", "02 00 61 03 01 00 00 80",
		// More than is left to be made, ahead of the bytes that follow.
		"01 04", "01 04 61", "01 ec", "01 f0 01", "01 f0 ff", "01 f4 01 00", "01 f4 00 01", "01 f8 00 00 01", "01 f8 ff ff ff", "01 fc 00 00 00 01", "01 fc ff ff ff ff", "01 fc 00 00 00 80",
		"03 00 61 08", "03 00 61 08 62 63 64", "03 f0 03 61 62 63",
		"04 00 61 01 01", "0b 00 61 1d 01", "02 00 61 06 01 00", "40 00 61 fe 01 00", "02 00 61 07 01 00 00 00", "40 00 61 ff 01 00 00 00",
		// What can't be ends what stands behind, short or long.
		"04 00 61 01 01 00 00", "03 02 00 00", "05 01 00 08", "03 00 61 02 00 00 01",
	}
}

func extraOnes() []string {
	return []string{
		"01 00 61 00", "00 00", "00 ff", "00 08 61 62 63", "00 80 00",
		"03 08 61 62 63 00", "05 00 61 0e 01 00 0e", "09 08 61 62 63 09 03 ff ff ff", "01 00 61 02 00 00", "01 f0 00 61 fc",
	}
}

// P4.1
func TestOpenOfWhatIsNone(t *testing.T) {
	for want, l := range map[api.Errno][]string{api.ErrShort: shortOnes(), api.ErrForm: wrongOnes(), api.ErrExtra: extraOnes()} {
		for _, s := range l {
			for _, most := range []int{64, api.MaxBytes} {
				if made, e := snappy.Open(unhex(s), most); made != nil || e != want {
					t.Errorf("Open(%s, %d): %x %v, not %v", s, most, made, e, want)
				}
			}
		}
	}
}

// P4.1: how far back, at the edges of what was made; how much, at those of what is left.
func TestOpenAtTheEdgesOfACopy(t *testing.T) {
	r := rand.New(rand.NewPCG(2, 4))
	for _, n := range []int{4, 11, 63, 64, 255, 256, 2046, 2047, 65534, 65535, 65536, 70000} {
		b := randomBytes(r, n, 256)
		for _, x := range []struct {
			back, left int
			want       api.Errno
		}{{n, 4, api.OK}, {n, 5, api.ErrShort}, {n, 3, api.ErrForm}, {n + 1, 4, api.ErrForm}, {n + 1, 3, api.ErrForm}, {0, 4, api.ErrForm}} {
			parts := [][]byte{far(4, x.back)}
			if x.back < 65536 {
				parts = append(parts, middle(4, x.back))
			}
			if x.back < 2048 {
				parts = append(parts, near(4, x.back))
			}
			for _, part := range parts {
				made, e := snappy.Open(block(n+x.left, text(3, b), part), api.MaxBytes)
				if e != x.want || e == api.OK && !bytes.Equal(made, again(b, 4, n)) || e != api.OK && made != nil {
					t.Errorf("%d bytes, a copy %x with %d left: %d bytes, %v, not %v", n, part, x.left, len(made), e, x.want)
				}
			}
		}
	}
}

// P4.1
func TestOpenByABound(t *testing.T) {
	for _, x := range []struct {
		hex  string
		most int
		want api.Errno
	}{
		{"00", 0, api.OK},
		{"03 08 61 62 63", 3, api.OK},
		{"03 08 61 62 63", 2, api.ErrLong},
		{"03 08 61 62 63", 0, api.ErrLong},
		// A bound that may not be is told first.
		{"00", -1, api.ErrArg},
		{"00", api.MaxBytes + 1, api.ErrArg},
		{"00", math.MinInt, api.ErrArg},
		{"00", math.MaxInt, api.ErrArg},
		{"", -1, api.ErrArg},
		{"80 00", api.MaxBytes + 1, api.ErrArg},
		{"00 00", -1, api.ErrArg},
		{"03", -1, api.ErrArg},
		{"ff ff ff ff 0f", -1, api.ErrArg},
		// Then what is wrong with the number, then ErrLong, then the parts.
		{"", 0, api.ErrShort},
		{"80", 0, api.ErrShort},
		{"ff ff ff ff", 0, api.ErrShort},
		{"80 00", 0, api.ErrForm},
		{"ff 00", 0, api.ErrForm},
		{"ff ff ff ff 10", 0, api.ErrForm},
		{"01", 0, api.ErrLong},
		{"01 01 00", 0, api.ErrLong},
		{"02 08 61 62 63", 1, api.ErrLong},
		{"01 00 61 00", 0, api.ErrLong},
		{"00 00", 0, api.ErrExtra},
		{"80 80 40", api.MaxBytes, api.ErrShort},
		{"80 80 40", api.MaxBytes - 1, api.ErrLong},
		{"81 80 40", api.MaxBytes, api.ErrLong},
		{"80 80 80 80 08", api.MaxBytes, api.ErrLong},
		{"ff ff ff ff 0f", api.MaxBytes, api.ErrLong},
		{"80 80 80 80 01", 0, api.ErrLong},
	} {
		if made, e := snappy.Open(unhex(x.hex), x.most); e != x.want || e != api.OK && made != nil {
			t.Errorf("Open(%s, %d): %x %v, not %v", x.hex, x.most, made, e, x.want)
		}
	}
}

// P4.1: a block may have more than MaxBytes bytes, if it makes no more.
func TestOpenOfALongBlock(t *testing.T) {
	want := randomBytes(rand.New(rand.NewPCG(3, 4)), api.MaxBytes, 256)
	b := number(len(want))
	for _, c := range want {
		b = append(b, text(4, []byte{c})...)
	}
	if made, e := snappy.Open(b, api.MaxBytes); !bytes.Equal(made, want) || e != api.OK {
		t.Errorf("%d bytes: %d bytes, %v", len(b), len(made), e)
	}
}

// P4.1
func TestLength(t *testing.T) {
	for _, n := range []int{0, 1, 2, 100, 127, 128, 129, 255, 256, 16383, 16384, api.MaxBytes - 1, api.MaxBytes, api.MaxBytes + 1, 1<<21 - 1, 1 << 21, 1<<28 - 1, 1 << 28, 1<<31 - 1, 1 << 31, 1<<32 - 1} {
		for _, behind := range []string{"", "\x00", "\x80", "\x08abc", "\xff\xff\xff"} {
			if got, e := snappy.Length(append(number(n), behind...)); got != n || e != api.OK {
				t.Errorf("Length(%x %x): %d %v, not %d", number(n), behind, got, e, n)
			}
		}
	}
	for _, n := range []int{1 << 32, 1<<32 + 1, 1<<35 - 1, 1 << 35, 1 << 42, 1 << 49, 1<<32 + 1<<56, math.MaxInt} {
		if got, e := snappy.Length(number(n)); got != 0 || e != api.ErrForm {
			t.Errorf("Length(%x): %d %v, not ErrForm", number(n), got, e)
		}
	}
}

// P4.1: of a number that is none Length and Open tell the same.
func TestLengthOfWhatIsNone(t *testing.T) {
	for want, l := range map[api.Errno][]string{
		api.ErrShort: {"", "80", "ff", "80 80", "ff ff", "80 80 80", "80 80 80 80", "ff ff ff ff"},
		api.ErrForm: {"80 00", "ff 00", "80 80 00", "80 80 80 00", "80 80 80 80 00", "80 80 80 80 10", "ff ff ff ff 10", "80 80 80 80 40", "80 80 80 80 80", "ff ff ff ff 8f", "ff ff ff ff ff",
			"80 80 80 80 80 00", "80 80 80 80 80 80 80 80 80 80 01", "80 00 08 61 62 63"},
	} {
		for _, s := range l {
			if n, e := snappy.Length(unhex(s)); n != 0 || e != want {
				t.Errorf("Length(%s): %d %v, not %v", s, n, e, want)
			}
			if made, e := snappy.Open(unhex(s), 0); made != nil || e != want {
				t.Errorf("Open(%s, 0): %x %v, not %v", s, made, e, want)
			}
		}
	}
}

// model opens a block by the chapter's words, a byte at a time.
func model(b []byte, most int) ([]byte, api.Errno) {
	size, at := 0, 0
	for shift := 0; ; shift += 7 {
		if at == len(b) {
			return nil, api.ErrShort
		}
		c := b[at]
		at++
		if shift == 28 && c > 15 || shift > 0 && c == 0 {
			return nil, api.ErrForm
		}
		size |= int(c&127) << shift
		if c < 128 {
			break
		}
	}
	if size > most {
		return nil, api.ErrLong
	}
	var made []byte
	for len(made) < size {
		part, e := modelPart(b[at:])
		if e != api.OK {
			return nil, e
		}
		at += part.begin
		if part.size > size-len(made) || part.copy && (part.back == 0 || part.back > len(made)) {
			return nil, api.ErrForm
		}
		for i := range part.size {
			if part.copy {
				made = append(made, made[len(made)-part.back])
				continue
			}
			if at+i >= len(b) {
				return nil, api.ErrShort
			}
			made = append(made, b[at+i])
		}
		if !part.copy {
			at += part.size
		}
	}
	if at < len(b) {
		return nil, api.ErrExtra
	}
	return made, api.OK
}

type modelled struct {
	copy              bool
	begin, size, back int
}

func modelPart(b []byte) (modelled, api.Errno) {
	if len(b) == 0 {
		return modelled{}, api.ErrShort
	}
	n := int(b[0] >> 2)
	width := [4]int{max(0, n-59), 1, 2, 4}[b[0]&3]
	if len(b) <= width {
		return modelled{}, api.ErrShort
	}
	m := 0
	for i := width; i > 0; i-- {
		m = m<<8 + int(b[i])
	}
	switch {
	case b[0]&3 == 1:
		return modelled{true, 2, n%8 + 4, n/8*256 + m}, api.OK
	case b[0]&3 != 0:
		return modelled{true, 1 + width, n + 1, m}, api.OK
	case n < 60:
		m = n
	}
	return modelled{false, 1 + width, m + 1, 0}, api.OK
}

func agree(t *testing.T, b []byte, most int) {
	t.Helper()
	want, why := model(b, most)
	made, e := snappy.Open(b, most)
	if !bytes.Equal(made, want) || e != why {
		t.Fatalf("Open(%x, %d): %x %v, not %x %v", b, most, made, e, want, why)
	}
	if n, e := snappy.Length(b); why == api.OK && (n != len(made) || e != api.OK) {
		t.Fatalf("Length(%x): %d %v of %d bytes", b, n, e, len(made))
	}
}

// randomPart is a part that may be behind so many bytes.
func randomPart(r *rand.Rand, made int) []byte {
	back := 1 + r.IntN(made+1)
	switch kind := r.IntN(4); {
	case made == 0 || kind == 0:
		return text(r.IntN(5), randomBytes(r, 1+r.IntN(60), 256))
	case kind == 1:
		return near(4+r.IntN(8), min(back, 2047))
	case kind == 2:
		return middle(1+r.IntN(64), back)
	}
	return far(1+r.IntN(64), back)
}

// randomBlock is a block, or, now and then, one that copies from ahead of the first byte.
func randomBlock(r *rand.Rand) []byte {
	made := 0
	var parts []byte
	for range r.IntN(12) {
		part := randomPart(r, made)
		of, _ := modelPart(part)
		made += of.size
		parts = append(parts, part...)
	}
	return block(made, parts)
}

// P4.1, P4.3: blocks of any parts, and those with a byte turned, left out, laid between.
func TestOpenOfRandomBlocks(t *testing.T) {
	r := rand.New(rand.NewPCG(4, 4))
	ok := 0
	for range 5000 {
		b := randomBlock(r)
		agree(t, b, api.MaxBytes)
		if _, e := snappy.Open(b, api.MaxBytes); e == api.OK {
			ok++
		}
		for range 5 {
			c := slices.Clone(b)
			at := r.IntN(len(c))
			switch r.IntN(4) {
			case 0:
				c[at] = byte(r.IntN(256))
			case 1:
				c = slices.Delete(c, at, at+1)
			case 2:
				c = slices.Insert(c, at, byte(r.IntN(256)))
			default:
				c = c[:at]
			}
			agree(t, c, 1+r.IntN(1000))
		}
	}
	if ok < 2000 {
		t.Errorf("only %d of the blocks were opened", ok)
	}
}

// P4.1: each beginning of up to two bytes, and all that may follow a begin.
func TestOpenOfFewBytes(t *testing.T) {
	for a := range 256 {
		for c := range 256 {
			agree(t, []byte{byte(a), byte(c)}, 100)
			for _, behind := range []string{"\x00", "\x01", "\x02\x00", "\xff\xff\xff\xff", "\x01\x00\x00\x00"} {
				agree(t, append([]byte{byte(a), byte(c)}, behind...), 100)
				agree(t, append([]byte{byte(a), 0, 'a', byte(c)}, behind...), 100)
			}
		}
	}
}

// P4.3
func TestAByteMoreOrLess(t *testing.T) {
	for _, x := range opened(rand.New(rand.NewPCG(5, 4))) {
		if made, e := snappy.Open(x.block[:len(x.block)-1], api.MaxBytes); made != nil || e != api.ErrShort {
			t.Errorf("%.20x.. without its last byte: %d bytes, %v", x.block, len(made), e)
		}
		for _, c := range []byte{0, 1, 0x80, 0xff} {
			if made, e := snappy.Open(append(slices.Clone(x.block), c), api.MaxBytes); made != nil || e != api.ErrExtra {
				t.Errorf("%.20x.. and %x behind it: %d bytes, %v", x.block, c, len(made), e)
			}
		}
	}
}

// P4.3
func TestLengthIsThatOfWhatOpenMakes(t *testing.T) {
	for _, x := range opened(rand.New(rand.NewPCG(6, 4))) {
		if n, e := snappy.Length(x.block); n != len(x.made) || e != api.OK {
			t.Errorf("Length(%.20x..): %d %v, not %d", x.block, n, e, len(x.made))
		}
	}
}

// keepsNothing: a call changes neither b nor what stands behind it, and each answer is memory of its own.
func keepsNothing(t *testing.T, b []byte, call func([]byte) []byte) {
	t.Helper()
	room := append(slices.Clone(b), "behind"...)
	was := slices.Clone(room)
	first, second := call(room[:len(b)]), call(room[:len(b)])
	want := slices.Clone(second)
	for i := range first {
		first[i] ^= 255
	}
	_ = append(first, "more"...)
	if !bytes.Equal(room, was) {
		t.Errorf("%x became %x", was, room)
	}
	for i := range room {
		room[i] ^= 255
	}
	if !bytes.Equal(second, want) {
		t.Errorf("%x: the answer changed from %x to %x", b, want, second)
	}
}

func TestOpenChangesAndKeepsNothing(t *testing.T) {
	for _, x := range append(examples(), joined()...) {
		keepsNothing(t, x.block, func(b []byte) []byte {
			snappy.Length(b)
			made, _ := snappy.Open(b, 100)
			return made
		})
	}
}
