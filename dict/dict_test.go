package dict_test

import (
	"math"
	"math/rand/v2"
	"slices"
	"testing"

	"marquetry/api"
	"marquetry/dict"
	"marquetry/hybrid"
)

// widthOf is how many bits the numbers of a dictionary have, once more.
func widthOf(size int) int {
	width := 0
	for 1<<width < size {
		width++
	}
	return width
}

// told are the bytes of numbers by a width, by the layer below.
func told(t *testing.T, width int, l []int) []byte {
	t.Helper()
	b, e := hybrid.Write(width, l...)
	if e != api.OK {
		t.Fatalf("hybrid.Write(%d: %.100v): %v", width, l, e)
	}
	return append([]byte{byte(width)}, b...)
}

// wantWritten: are those the numbers' bytes, and are these read as they were?
func wantWritten(t *testing.T, size int, l []int, want []byte) {
	t.Helper()
	if b, e := dict.Write(size, l...); !slices.Equal(b, want) || e != api.OK {
		t.Errorf("Write(%d: %.100v (%d numbers)): %.40x (%d bytes) %v, not %.40x (%d bytes)", size, l, len(l), b, len(b), e, want, len(want))
	}
	wantRead(t, want, size, l)
}

func writeRefused(t *testing.T, size int, l []int, want api.Errno) {
	t.Helper()
	if b, e := dict.Write(size, l...); b != nil || e != want {
		t.Errorf("Write(%d: %.100v (%d numbers)): %.40x %v, not %v", size, l, len(l), b, e, want)
	}
}

func wantRead(t *testing.T, b []byte, size int, want []int) {
	t.Helper()
	if l, e := dict.Read(b, size, len(want)); !slices.Equal(l, want) || e != api.OK {
		t.Errorf("Read(%.40x (%d bytes), %d, %d): %.100v %v, not %.100v", b, len(b), size, len(want), l, e, want)
	}
}

func readRefused(t *testing.T, b []byte, size, count int, want api.Errno) {
	t.Helper()
	if l, e := dict.Read(b, size, count); l != nil || e != want {
		t.Errorf("Read(%.40x (%d bytes), %d, %d): %.100v %v, not %v", b, len(b), size, count, l, e, want)
	}
}

// P12.1: the chapter's examples, and their like.
func TestWrite(t *testing.T) {
	for _, x := range []struct {
		size int
		l    []int
		want []byte
	}{
		{2, []int{0, 1, 0}, []byte{1, 3, 2}},
		{1, []int{0, 0}, []byte{0, 3}},
		{0, nil, []byte{0}},
		{1, nil, []byte{0}},
		{2, nil, []byte{1}},
		{3, nil, []byte{2}},
		{api.MaxCount, nil, []byte{16}},
		{1, times(8, 0), []byte{0, 16}},
		{2, times(8, 1), []byte{1, 16, 1}},
		{2, times(8, 0), []byte{1, 16, 0}},
		{3, []int{2}, []byte{2, 3, 2, 0}},
		{4, []int{3, 0, 3}, []byte{2, 3, 51, 0}},
		// The width is the dictionary's, also where all numbers are less.
		{8, []int{0, 1}, []byte{3, 3, 8, 0, 0}},
		{200, times(10, 199), []byte{8, 20, 199}},
		{8, upTo(8), []byte{3, 3, 136, 198, 250}},
		{257, times(8, 256), []byte{9, 16, 0, 1}},
		{api.MaxCount, times(8, api.MaxCount-1), []byte{16, 16, 255, 255}},
	} {
		wantWritten(t, x.size, x.l, x.want)
	}
}

// P12.1: the width of each size next to which it changes.
func TestWriteByWidth(t *testing.T) {
	for width := range 16 {
		for _, size := range []int{1<<width - 1, 1 << width, 1<<width + 1} {
			bytes := []byte{byte(widthOf(size))}
			wantWritten(t, size, nil, bytes)
			if size > 0 {
				wantWritten(t, size, []int{0, size - 1}, told(t, widthOf(size), []int{0, size - 1}))
				wantWritten(t, size, times(9, size-1), told(t, widthOf(size), times(9, size-1)))
			}
		}
	}
	for size := range 70 {
		wantWritten(t, size, upTo(size), told(t, widthOf(size), upTo(size)))
	}
}

// noNumbers are numbers that a dictionary of so many values has not.
func noNumbers(size int) []int {
	return []int{-1, -2, -size - 1, size, size + 1, api.MaxCount + size, 1 << 32, 1<<32 + 1, math.MaxInt, math.MinInt, math.MinInt + 1}
}

// P12.1: a number that may not be, wherever it stands, ahead of too many.
func TestWriteOfWhatMayNotBe(t *testing.T) {
	for _, size := range []int{0, 1, 2, 3, 4, 5, 8, 9, 255, 256, 257, api.MaxCount - 1, api.MaxCount} {
		some := upTo(min(size, 3))
		for _, n := range noNumbers(size) {
			writeRefused(t, size, []int{n}, api.ErrArg)
			writeRefused(t, size, times(9, n), api.ErrArg)
			writeRefused(t, size, append([]int{n}, some...), api.ErrArg)
			writeRefused(t, size, join(some, []int{n}), api.ErrArg)
			writeRefused(t, size, join(some, []int{n}, some), api.ErrArg)
		}
		writeRefused(t, size, append(times(api.MaxCount, 0), size), api.ErrArg)
		writeRefused(t, size, append(times(api.MaxCount, 0), -1), api.ErrArg)
	}
	for _, size := range []int{-1, -2, -1 << 32, math.MinInt, math.MinInt + 1} {
		for _, l := range [][]int{nil, {0}, {-1}, {size}, {size - 1}, {size, size}, times(api.MaxCount+1, 0)} {
			writeRefused(t, size, l, api.ErrArg)
		}
	}
	for _, size := range []int{api.MaxCount + 1, 1 << 32, math.MaxInt} {
		writeRefused(t, size, []int{-1}, api.ErrArg)
		writeRefused(t, size, []int{0, -1}, api.ErrArg)
	}
	writeRefused(t, api.MaxCount+1, []int{api.MaxCount + 1}, api.ErrArg)
}

// P12.1: as many values, as many numbers as may be, and one more.
func TestWriteOfTooMany(t *testing.T) {
	all := upTo(api.MaxCount)
	wantWritten(t, api.MaxCount, all, told(t, 16, all))
	wantWritten(t, 1, times(api.MaxCount, 0), []byte{0, 128, 128, 8})
	for _, size := range []int{1, 2, 3, api.MaxCount} {
		writeRefused(t, size, times(api.MaxCount+1, 0), api.ErrLong)
		writeRefused(t, size, times(1<<20, size-1), api.ErrLong)
	}
	for _, size := range []int{api.MaxCount + 1, 1<<17 + 1, 1 << 32, 1<<32 + 1, math.MaxInt - 1, math.MaxInt} {
		writeRefused(t, size, nil, api.ErrLong)
		writeRefused(t, size, []int{0}, api.ErrLong)
		writeRefused(t, size, []int{size - 1}, api.ErrLong)
		writeRefused(t, size, times(api.MaxCount+1, 0), api.ErrLong)
	}
}

// randomNumbers are numbers of a dictionary, some of them alike one behind the other.
func randomNumbers(r *rand.Rand, size, most int) []int {
	var l []int
	for size > 0 && len(l) < most && r.IntN(12) > 0 {
		n := r.IntN(size)
		l = append(l, times(1+r.IntN(2)*r.IntN(20), n)...)
	}
	return l[:min(len(l), most)]
}

// P12.1, P12.2
func TestThereAndBack(t *testing.T) {
	r := rand.New(rand.NewPCG(4, 12))
	for range 20000 {
		size := r.IntN(api.MaxCount+1) >> r.IntN(17)
		l := randomNumbers(r, size, 200)
		wantWritten(t, size, l, told(t, widthOf(size), l))
	}
}

// P12.1: by widths that no writer tells, numbers that the dictionary has.
func TestReadByAnyWidth(t *testing.T) {
	r := rand.New(rand.NewPCG(5, 12))
	for width := range 33 {
		for range 200 {
			size := min(api.MaxCount, 1<<width)
			l := randomNumbers(r, size, 60)
			b := told(t, width, l)
			for _, size := range []int{size, api.MaxCount} {
				wantRead(t, b, size, l)
			}
			if len(l) > 0 {
				greatest := slices.Max(l)
				wantRead(t, b, greatest+1, l)
				readRefused(t, b, greatest, len(l), api.ErrRange)
			}
		}
		wantRead(t, []byte{byte(width)}, 0, nil)
		wantRead(t, []byte{byte(width)}, api.MaxCount, nil)
	}
}

// P12.1: the chapter's examples, and their like.
func TestRead(t *testing.T) {
	for _, x := range []struct {
		what        string
		b           []byte
		size, count int
		want        api.Errno
	}{
		{"the chapter's", []byte{1, 3, 2}, 2, 3, api.OK},
		{"no numbers", []byte{0}, 1, 0, api.OK},
		{"runs that no writer lays so", []byte{1, 2, 1, 2, 1, 3, 1}, 2, 3, api.OK},
		{"less values than the width has room for", []byte{8, 2, 1}, 2, 1, api.OK},
		{"a width that is too small for all values", []byte{0, 2}, 9, 1, api.OK},
		{"no byte", nil, 2, 3, api.ErrShort},
		{"no byte, no numbers", []byte{}, 2, 0, api.ErrShort},
		{"no byte, no values", nil, 0, 0, api.ErrShort},
		{"33 bits", []byte{33, 0}, 2, 1, api.ErrWidth},
		{"33 bits, nothing behind", []byte{33}, 2, 1, api.ErrWidth},
		{"33 bits, no numbers", []byte{33}, 2, 0, api.ErrWidth},
		{"33 bits, no values", []byte{33}, 0, 0, api.ErrWidth},
		{"33 bits, and what ends too early", []byte{33, 128}, 2, 1, api.ErrWidth},
		{"255 bits", []byte{255, 2, 0}, 2, 1, api.ErrWidth},
		{"no run", []byte{1}, 2, 1, api.ErrShort},
		{"no number", []byte{1, 2}, 2, 1, api.ErrShort},
		{"half a head", []byte{1, 130}, 2, 1, api.ErrShort},
		{"too few numbers", []byte{1, 2, 1}, 2, 2, api.ErrShort},
		{"a head of more than 64 bits", []byte{1, 255, 255, 255, 255, 255, 255, 255, 255, 255, 2, 1}, 2, 1, api.ErrOver},
		{"a head that is not the shortest", []byte{1, 130, 0, 1}, 2, 1, api.ErrForm},
		{"no times", []byte{1, 0, 1}, 2, 1, api.ErrForm},
		{"too many numbers", []byte{1, 4, 1}, 2, 1, api.ErrForm},
		{"one too many that is not 0", []byte{1, 3, 2}, 2, 1, api.ErrForm},
		{"a number above the width", []byte{1, 2, 2}, 4, 1, api.ErrForm},
		{"a byte behind", []byte{1, 3, 2, 0}, 2, 3, api.ErrExtra},
		{"a byte behind no numbers", []byte{1, 0}, 2, 0, api.ErrExtra},
		{"a byte behind no width", []byte{0, 0}, 1, 0, api.ErrExtra},
		{"the chapter's number that is not there", []byte{2, 2, 3}, 3, 1, api.ErrRange},
		{"a number, and no values", []byte{0, 2}, 0, 1, api.ErrRange},
		{"a first one that is not there", []byte{2, 3, 35, 0}, 3, 3, api.ErrRange},
		{"one within that is not there", []byte{2, 3, 44, 0}, 3, 3, api.ErrRange},
		{"a last one that is not there", []byte{2, 3, 50, 0}, 3, 3, api.ErrRange},
		{"one that stands often", []byte{2, 20, 3}, 3, 10, api.ErrRange},
		{"the highest bit of 32", []byte{32, 2, 0, 0, 0, 128}, api.MaxCount, 1, api.ErrRange},
		{"2^32 - 1", []byte{32, 2, 255, 255, 255, 255}, api.MaxCount, 1, api.ErrRange},
		{"one more than the last of as many as may be", []byte{17, 2, 0, 0, 1}, api.MaxCount, 1, api.ErrRange},
		{"one that is not there ahead of what ends too early", []byte{2, 2, 3}, 3, 2, api.ErrShort},
		{"one that is not there ahead of a byte behind", []byte{2, 2, 3, 0}, 3, 1, api.ErrExtra},
		{"one that is not there ahead of one that does not fit", []byte{2, 2, 3, 2, 4}, 3, 2, api.ErrForm},
	} {
		t.Run(x.what, func(t *testing.T) {
			if x.want != api.OK {
				readRefused(t, x.b, x.size, x.count, x.want)
				return
			}
			l, e := hybrid.Read(x.b[1:], int(x.b[0]), x.count)
			if e != api.OK {
				t.Fatal(e)
			}
			wantRead(t, x.b, x.size, l)
		})
	}
}

// P12.1: each width that may not be.
func TestReadByNoWidth(t *testing.T) {
	for width := range 256 {
		for _, behind := range [][]byte{nil, {2, 0, 0, 0, 0}, {128}, {0}} {
			b := append([]byte{byte(width)}, behind...)
			_, e := dict.Read(b, 3, 1)
			if width > 32 && e != api.ErrWidth || width <= 32 && e == api.ErrWidth {
				t.Errorf("Read(%x, 3, 1): %v", b, e)
			}
		}
	}
}

// P12.1: sizes and counts that may not be, ahead of what is too long, and of what is wrong with the bytes.
func TestReadByNoSizeOrCount(t *testing.T) {
	for _, b := range [][]byte{nil, {0}, {1, 3, 2}, {33}, {1}, make([]byte, api.MaxBytes+1)} {
		for _, below := range []int{-1, -2, -8, -1 << 32, math.MinInt, math.MinInt + 1} {
			for _, other := range []int{0, 1, 3, -1, api.MaxCount, api.MaxCount + 1, math.MaxInt} {
				readRefused(t, b, below, other, api.ErrArg)
				readRefused(t, b, other, below, api.ErrArg)
			}
		}
		for _, above := range []int{api.MaxCount + 1, api.MaxCount + 8, 1 << 32, 1<<32 + 1, math.MaxInt - 7, math.MaxInt} {
			for _, other := range []int{0, 1, 3, api.MaxCount, above} {
				readRefused(t, b, above, other, api.ErrLong)
				readRefused(t, b, other, above, api.ErrLong)
			}
		}
	}
}

// P12.1: as many bytes as may be, and one more.
func TestReadOfManyBytes(t *testing.T) {
	for _, first := range []byte{0, 1, 32, 33, 255} {
		b := make([]byte, api.MaxBytes+1)
		b[0], b[1] = first, 2
		for _, count := range []int{0, 1, api.MaxCount} {
			readRefused(t, b, 3, count, api.ErrLong)
		}
		want := api.ErrExtra
		if first > 32 {
			want = api.ErrWidth
		}
		readRefused(t, b[:api.MaxBytes], 3, 1, want)
	}
	// The longest that are read: a run for each number.
	wantRead(t, append([]byte{32}, slices.Repeat([]byte{2, 7, 0, 0, 0}, api.MaxCount)...), 8, times(api.MaxCount, 7))
	wantRead(t, []byte{16, 128, 128, 8, 255, 255}, api.MaxCount, times(api.MaxCount, api.MaxCount-1))
	readRefused(t, []byte{16, 128, 128, 8, 255, 255}, api.MaxCount-1, api.MaxCount, api.ErrRange)
}

// P12.2: each cut of what is written, each byte behind it.
func TestReadOfEachCut(t *testing.T) {
	r := rand.New(rand.NewPCG(6, 12))
	for range 1000 {
		size := 1 + r.IntN(api.MaxCount)>>r.IntN(17)
		l := append(randomNumbers(r, size, 60), 0)
		b := told(t, widthOf(size), l)
		for n := range b {
			readRefused(t, b[:n], size, len(l), api.ErrShort)
		}
		readRefused(t, append(b, byte(r.IntN(256))), size, len(l), api.ErrExtra)
	}
}

// randomBytes are a width and runs of numbers, most of which may be, and how many numbers they have.
func randomBytes(r *rand.Rand) ([]byte, int) {
	width, count := r.IntN(4), 0
	if r.IntN(20) == 0 {
		width = r.IntN(256)
	}
	b := []byte{byte(width)}
	for range r.IntN(4) {
		n := 1 + r.IntN(3)
		if r.IntN(2) == 0 {
			b = append(b, byte(2*n+1))
			count += 8 * n
			for range n * width {
				b = append(b, byte(r.IntN(256)))
			}
			continue
		}
		b = append(b, byte(2*n))
		count += n
		if width > 0 {
			b = append(b, byte(r.IntN(1<<min(width, 8)+1)))
		}
	}
	return b, count
}

// readOf is what is told of bytes, once more: by the layer below, and then by the range.
func readOf(b []byte, size, count int) ([]int, api.Errno) {
	if len(b) == 0 {
		return nil, api.ErrShort
	}
	if b[0] > 32 {
		return nil, api.ErrWidth
	}
	l, e := hybrid.Read(b[1:], int(b[0]), count)
	if len(l) > 0 && slices.Max(l) >= size {
		return nil, api.ErrRange
	}
	return l, e
}

// P12.1, P12.2: any bytes, any sizes and counts; what is read, written, is read as the same.
func TestReadOfAnyBytes(t *testing.T) {
	r := rand.New(rand.NewPCG(7, 12))
	seen := map[api.Errno]int{}
	for range 100000 {
		b, count := randomBytes(r)
		size := r.IntN(10)
		switch r.IntN(8) {
		case 0:
			b = b[:r.IntN(len(b)+1)]
		case 1:
			b = append(b, byte(r.IntN(256)))
		case 2:
			count = max(0, count-r.IntN(9))
		case 3:
			b[r.IntN(len(b))] = byte(r.IntN(256))
		}
		l, want := readOf(b, size, count)
		seen[want]++
		if want != api.OK {
			readRefused(t, b, size, count, want)
			continue
		}
		wantRead(t, b, size, l)
		again, e := dict.Write(size, l...)
		if e != api.OK {
			t.Fatalf("Write(%d: %v): %v", size, l, e)
		}
		wantRead(t, again, size, l)
	}
	for _, e := range []api.Errno{api.OK, api.ErrShort, api.ErrExtra, api.ErrForm, api.ErrRange, api.ErrWidth} {
		if seen[e] < 1000 {
			t.Errorf("%v: only %d times", e, seen[e])
		}
	}
}

// P12.1: what is handed in is not changed, nor what stands behind it, and not kept; each answer is new memory.
func TestNothingIsKept(t *testing.T) {
	r := rand.New(rand.NewPCG(8, 12))
	for range 300 {
		size := 1 + r.IntN(300)
		l := randomNumbers(r, size, 60)
		room := append(slices.Clone(l), 1, 2, 3, 4)
		were := slices.Clone(room)
		b, _ := dict.Write(size, room[:len(l)]...)
		other, _ := dict.Write(size, room[:len(l)]...)
		clear(other[:cap(other)])
		want := told(t, widthOf(size), l)
		if !slices.Equal(room, were) || !slices.Equal(b, want) {
			t.Errorf("%v, not %v; %x, not %x", room, were, b, want)
		}
		b = append(b, 77, 78)
		before := slices.Clone(b)
		got, _ := dict.Read(b[:len(want)], size, len(l))
		others, _ := dict.Read(b[:len(want)], size, len(l))
		clear(others[:cap(others)])
		if !slices.Equal(b, before) {
			t.Errorf("%x, not %x", b, before)
		}
		clear(b)
		if !slices.Equal(got, l) {
			t.Errorf("%v, not %v", got, l)
		}
	}
}
