package hybrid_test

import (
	"math"
	"math/rand/v2"
	"slices"
	"testing"

	"marquetry/api"
	"marquetry/bits"
	"marquetry/hybrid"
)

// wantRead: are those the numbers, by Read, and by Part with whatever behind?
func wantRead(t *testing.T, b []byte, width int, want []int) {
	t.Helper()
	if l, e := hybrid.Read(b, width, len(want)); !slices.Equal(l, want) || e != api.OK {
		t.Errorf("Read(%.40x (%d bytes), %d, %d): %.100v %v, not %.100v", b, len(b), width, len(want), l, e, want)
	}
	for _, behind := range [][]byte{nil, {0}, {20, 5}, {255, 255, 255}} {
		l, size, e := hybrid.Part(join(b, behind), width, len(want))
		if !slices.Equal(l, want) || size != len(b) || e != api.OK {
			t.Errorf("Part(%.40x (%d bytes) and %x, %d, %d): %.100v %d %v, not %.100v", b, len(b), behind, width, len(want), l, size, e, want)
		}
	}
}

// readRefused: do Read and Runs tell why, and nothing else; and Part too, unless it is what stands behind?
func readRefused(t *testing.T, b []byte, width, count int, want api.Errno) {
	t.Helper()
	if l, e := hybrid.Read(b, width, count); l != nil || e != want {
		t.Errorf("Read(%.40x (%d bytes), %d, %d): %.100v %v, not %v", b, len(b), width, count, l, e, want)
	}
	if l, e := hybrid.Runs(b, width, count); l != nil || e != want {
		t.Errorf("Runs(%.40x (%d bytes), %d, %d): %.100v %v, not %v", b, len(b), width, count, l, e, want)
	}
	if want == api.ErrExtra {
		return
	}
	if l, size, e := hybrid.Part(b, width, count); l != nil || size != 0 || e != want {
		t.Errorf("Part(%.40x (%d bytes), %d, %d): %.100v %d %v, not %v", b, len(b), width, count, l, size, e, want)
	}
}

// wantAnswer: is just that told of the bytes, by each call?
func wantAnswer(t *testing.T, b []byte, width, count int) answer {
	t.Helper()
	want := readOf(b, width, count)
	l, size, e := hybrid.Part(b, width, count)
	if !slices.Equal(l, want.l) || size != want.size || e != want.e {
		t.Fatalf("Part(%.60x (%d bytes), %d, %d): %.100v %d %v, not %.100v %d %v", b, len(b), width, count, l, size, e, want.l, want.size, want.e)
	}
	if want.e == api.OK && want.size < len(b) {
		want = answer{e: api.ErrExtra}
	}
	if l, e := hybrid.Read(b, width, count); !slices.Equal(l, want.l) || e != want.e {
		t.Fatalf("Read(%.60x (%d bytes), %d, %d): %.100v %v, not %.100v %v", b, len(b), width, count, l, e, want.l, want.e)
	}
	if runs, e := hybrid.Runs(b, width, count); !slices.Equal(runs, want.runs) || e != want.e {
		t.Fatalf("Runs(%.60x (%d bytes), %d, %d): %.100v %v, not %.100v %v", b, len(b), width, count, runs, e, want.runs, want.e)
	}
	return want
}

// P11.1: runs that no writer lays so are read too.
func TestRead(t *testing.T) {
	for _, x := range []struct {
		b     []byte
		width int
		want  []int
	}{
		{[]byte{2, 1}, 1, []int{1}},
		{[]byte{2, 1, 2, 0, 2, 1}, 1, []int{1, 0, 1}},
		{[]byte{2, 1, 4, 1}, 1, []int{1, 1, 1}},
		{[]byte{3, 255}, 1, times(8, 1)},
		{[]byte{3, 255, 3, 255}, 1, times(16, 1)},
		{[]byte{3, 255, 2, 1}, 1, times(9, 1)},
		{[]byte{2, 1, 3, 3}, 1, []int{1, 1, 1}},
		{[]byte{2, 1, 3, 255}, 1, times(9, 1)},
		{[]byte{2, 1, 3, 0}, 1, []int{1, 0}},
		{[]byte{5, 255, 1}, 1, times(9, 1)},
		{[]byte{2}, 0, []int{0}},
		{[]byte{2, 2, 3, 2}, 0, times(11, 0)},
		{[]byte{2, 2, 3}, 0, times(3, 0)},
		{[]byte{4, 255, 255, 255, 255}, 32, []int{math.MaxUint32, math.MaxUint32}},
		{[]byte{2, 255, 255, 255, 127}, 31, []int{math.MaxInt32}},
		{[]byte{2, 0, 1}, 9, []int{256}},
		{nil, 0, nil},
		{nil, 32, nil},
	} {
		wantRead(t, x.b, x.width, x.want)
	}
}

// P11.1, P11.2: the table of the chapter, and its like.
func TestReadRefuses(t *testing.T) {
	for _, x := range []struct {
		what         string
		b            []byte
		width, count int
		want         api.Errno
	}{
		{"a repeated number too often", []byte{20, 5}, 3, 9, api.ErrForm},
		{"a repeated number not often enough", []byte{20, 5}, 3, 11, api.ErrShort},
		{"a number too many that is not 0", []byte{3, 13}, 1, 3, api.ErrForm},
		{"the last number too many", []byte{3, 133}, 1, 3, api.ErrForm},
		{"the only number too many", []byte{3, 255}, 1, 7, api.ErrForm},
		{"no times", []byte{0}, 1, 1, api.ErrForm},
		{"no times, and its number", []byte{0, 0}, 1, 1, api.ErrForm},
		{"no groups", []byte{1}, 1, 1, api.ErrForm},
		{"no times, no width", []byte{0}, 0, 1, api.ErrForm},
		{"no groups, no width", []byte{1}, 0, 1, api.ErrForm},
		{"no groups ahead of some", []byte{1, 3, 5}, 1, 3, api.ErrForm},
		{"no times behind some", []byte{2, 1, 0, 1}, 1, 2, api.ErrForm},
		{"eight too many", []byte{5, 1, 0}, 1, 8, api.ErrForm},
		{"eight too many, no width", []byte{5}, 0, 8, api.ErrForm},
		{"eight too many behind a run", []byte{2, 1, 5, 1, 0}, 1, 9, api.ErrForm},
		{"one too many, no width", []byte{4}, 0, 1, api.ErrForm},
		{"too many behind a packed run", []byte{3, 1, 4, 1}, 1, 9, api.ErrForm},
		{"a number that does not fit", []byte{20, 9}, 3, 10, api.ErrForm},
		{"another one", []byte{20, 8}, 3, 10, api.ErrForm},
		{"a bit of the last byte", []byte{20, 0, 2}, 9, 10, api.ErrForm},
		{"the highest bit", []byte{20, 0, 0, 0, 128}, 31, 10, api.ErrForm},
		{"no number", []byte{20}, 3, 10, api.ErrShort},
		{"half a number", []byte{20, 1}, 9, 10, api.ErrShort},
		{"not all of a number", []byte{20, 255, 255, 255}, 32, 10, api.ErrShort},
		{"no groups' bytes", []byte{3}, 1, 8, api.ErrShort},
		{"not all of a group", []byte{3, 136, 198}, 3, 8, api.ErrShort},
		{"one group of two", []byte{5, 136, 198, 250}, 3, 16, api.ErrShort},
		{"nothing", nil, 0, 1, api.ErrShort},
		{"no run behind a run", []byte{2, 1}, 1, 2, api.ErrShort},
		{"half a head", []byte{148}, 3, 10, api.ErrShort},
		{"half a head behind a run", []byte{2, 1, 129}, 1, 2, api.ErrShort},
		{"a head that is not the shortest", []byte{148, 0, 5}, 3, 10, api.ErrForm},
		{"a head 0 that is not the shortest", []byte{128, 0, 5}, 3, 10, api.ErrForm},
		{"a head of more than 64 bits", []byte{255, 255, 255, 255, 255, 255, 255, 255, 255, 2, 5}, 3, 10, api.ErrOver},
		{"such a one behind a run", []byte{2, 1, 255, 255, 255, 255, 255, 255, 255, 255, 255, 127}, 1, 2, api.ErrOver},
		{"a head of 64 bits, packed", []byte{255, 255, 255, 255, 255, 255, 255, 255, 255, 1, 5}, 3, 10, api.ErrForm},
		{"a head of 64 bits, repeated", []byte{254, 255, 255, 255, 255, 255, 255, 255, 255, 1, 5}, 3, 10, api.ErrForm},
		{"2^61 groups", []byte{129, 128, 128, 128, 128, 128, 128, 128, 64, 0}, 3, 8, api.ErrForm},
		{"2^61 + 1 groups", []byte{131, 128, 128, 128, 128, 128, 128, 128, 64, 0}, 3, 8, api.ErrForm},
		{"2^32 + 1 times", []byte{130, 128, 128, 128, 32, 0}, 3, 8, api.ErrForm},
		{"a byte behind", []byte{20, 5, 0}, 3, 10, api.ErrExtra},
		{"a run behind", []byte{20, 5, 20, 5}, 3, 10, api.ErrExtra},
		{"no run behind", []byte{3, 5, 0}, 1, 3, api.ErrExtra},
		{"a byte behind nothing", []byte{7}, 1, 0, api.ErrExtra},
		{"a byte behind nothing, no width", []byte{0}, 0, 0, api.ErrExtra},
		{"a byte behind no bytes", []byte{18, 0}, 0, 9, api.ErrExtra},
	} {
		t.Run(x.what, func(t *testing.T) {
			readRefused(t, x.b, x.width, x.count, x.want)
			wantAnswer(t, x.b, x.width, x.count)
		})
	}
}

// P11.1: of a run with several faults the one that the chapter names first, of several runs that of the first.
func TestReadTellsTheFirstFault(t *testing.T) {
	for _, x := range []struct {
		what         string
		b            []byte
		width, count int
		want         api.Errno
	}{
		{"no times, and short", []byte{0}, 8, 1, api.ErrForm},
		{"no groups, and short", []byte{1}, 8, 1, api.ErrForm},
		{"too often, and short", []byte{20}, 3, 9, api.ErrForm},
		{"too many groups, and short", []byte{5}, 3, 8, api.ErrForm},
		{"one too many that is not 0, and short", []byte{3, 1, 5}, 8, 1, api.ErrForm},
		{"one too many that is 0, and short", []byte{3, 1, 0}, 8, 1, api.ErrShort},
		{"bits of one too many, and short", []byte{3, 255, 31}, 12, 1, api.ErrForm},
		{"no bits of one too many, and short", []byte{3, 255, 15}, 12, 1, api.ErrShort},
		{"a head not the shortest, and short", []byte{148, 0}, 3, 9, api.ErrForm},
		{"a head of too many bits, that ends too early", slices.Repeat([]byte{255}, 12), 3, 9, api.ErrShort},
		{"too often, and bytes behind", []byte{20, 5, 0}, 3, 9, api.ErrForm},
		{"one too many, and bytes behind", []byte{3, 13, 0}, 1, 3, api.ErrForm},
		{"does not fit, too often", []byte{20, 9}, 3, 9, api.ErrForm},
		{"a run that does not fit ahead of a short one", []byte{2, 9, 2}, 3, 2, api.ErrForm},
		{"a run that does not fit ahead of an over one", []byte{2, 9, 255, 255, 255, 255, 255, 255, 255, 255, 255, 127}, 3, 2, api.ErrForm},
		{"an over one ahead of one that does not fit", []byte{255, 255, 255, 255, 255, 255, 255, 255, 255, 127, 2, 9}, 3, 2, api.ErrOver},
	} {
		t.Run(x.what, func(t *testing.T) { readRefused(t, x.b, x.width, x.count, x.want) })
	}
}

// P11.1: widths and counts that may not be, ahead of what is wrong with the bytes.
func TestReadByNoWidthOrCount(t *testing.T) {
	for _, b := range [][]byte{nil, {0}, {20, 5}, make([]byte, api.MaxBytes+1)} {
		for _, width := range noWidths() {
			for _, count := range []int{0, 1, 10, -1, api.MaxCount + 1, math.MaxInt, math.MinInt} {
				readRefused(t, b, width, count, api.ErrArg)
			}
		}
		for width := range 33 {
			for _, count := range []int{-1, -2, -8, -1 << 32, math.MinInt, math.MinInt + 1} {
				readRefused(t, b, width, count, api.ErrArg)
			}
		}
	}
}

// P11.1: more bytes, more numbers than may be, ahead of what is wrong with the runs.
func TestReadOfTooMany(t *testing.T) {
	for _, width := range []int{0, 1, 8, 32} {
		for _, b := range [][]byte{nil, {0}, {16, 0}, make([]byte, api.MaxBytes)} {
			for _, count := range []int{api.MaxCount + 1, api.MaxCount + 8, 1 << 32, 1<<32 + 1, math.MaxInt - 7, math.MaxInt} {
				readRefused(t, b, width, count, api.ErrLong)
			}
		}
		for _, count := range []int{0, 1, 8, api.MaxCount, api.MaxCount + 1, math.MaxInt} {
			readRefused(t, make([]byte, api.MaxBytes+1), width, count, api.ErrLong)
		}
		// As many as may be are read.
		full := make([]byte, api.MaxBytes)
		copy(full, []byte{20})
		l, size, e := hybrid.Part(full, width, 10)
		if !slices.Equal(l, times(10, 0)) || size != 1+(width+7)/8 || e != api.OK {
			t.Errorf("%d: %v %d %v", width, l, size, e)
		}
		readRefused(t, full, width, 10, api.ErrExtra)
		readRefused(t, full, width, 9, api.ErrForm)
	}
	wantRead(t, []byte{128, 128, 8, 1}, 1, times(api.MaxCount, 1))
	readRefused(t, []byte{130, 128, 8, 1}, 1, api.MaxCount, api.ErrForm)
	readRefused(t, []byte{126, 1}, 1, api.MaxCount, api.ErrShort)
	wantRead(t, slices.Repeat([]byte{2}, api.MaxCount), 0, times(api.MaxCount, 0))
	wantRead(t, slices.Repeat([]byte{2, 1, 0, 0, 0}, api.MaxCount), 32, times(api.MaxCount, 1))
	wantRead(t, join(head(2*8192+1), slices.Repeat([]byte{255}, 4*api.MaxCount)), 32, times(api.MaxCount, math.MaxUint32))
	readRefused(t, head(2*8192+1), 32, api.MaxCount, api.ErrShort)
	readRefused(t, head(2*8193+1), 32, api.MaxCount, api.ErrForm)
}

// P11.1: of no numbers no byte is read.
func TestReadOfNoNumbers(t *testing.T) {
	for width := range 33 {
		for _, b := range [][]byte{{0}, {1}, {2}, {3}, {20, 5}, {128}, slices.Repeat([]byte{255}, 11), make([]byte, api.MaxBytes)} {
			if l, size, e := hybrid.Part(b, width, 0); len(l) != 0 || size != 0 || e != api.OK {
				t.Errorf("Part(%.20x, %d, 0): %v %d %v", b, width, l, size, e)
			}
			readRefused(t, b, width, 0, api.ErrExtra)
		}
		wantAnswer(t, nil, width, 0)
	}
}

// P11.1: each number of numbers too many, each bit of them.
func TestReadOfBitsTooMany(t *testing.T) {
	for width := 1; width <= 32; width++ {
		for count := 1; count <= 25; count++ {
			groups := (count + 7) / 8
			l := times(count, 1<<width-1)
			b := append(head(2*groups+1), make([]byte, groups*width)...)
			for bit := range count * width {
				b[1+bit/8] |= 1 << (bit % 8)
			}
			wantRead(t, b, width, l)
			for bit := count * width; bit < 8*groups*width; bit++ {
				wrong := slices.Clone(b)
				wrong[1+bit/8] |= 1 << (bit % 8)
				readRefused(t, wrong, width, count, api.ErrForm)
			}
		}
	}
}

// P11.1: each width, each bit of a repeated number's bytes.
func TestReadOfEachBitOfARepeatedNumber(t *testing.T) {
	for width := range 33 {
		size := (width + 7) / 8
		for bit := range 8 * size {
			b := append([]byte{6}, make([]byte, size)...)
			b[1+bit/8] = 1 << (bit % 8)
			if bit < width {
				wantRead(t, b, width, times(3, 1<<bit))
			} else {
				readRefused(t, b, width, 3, api.ErrForm)
			}
		}
	}
}

// P11.2
func TestRuns(t *testing.T) {
	packed := func(n int) api.Run { return api.Run{Packed: true, Count: n} }
	repeated := func(n int) api.Run { return api.Run{Count: n} }
	for _, x := range []struct {
		b            []byte
		width, count int
		want         []api.Run
	}{
		{[]byte{20, 5}, 3, 10, []api.Run{repeated(10)}},
		{[]byte{3, 5}, 1, 3, []api.Run{packed(3)}},
		{[]byte{3, 5}, 1, 7, []api.Run{packed(7)}},
		{[]byte{3, 5}, 1, 8, []api.Run{packed(8)}},
		{[]byte{3, 5, 16, 1}, 1, 16, []api.Run{packed(8), repeated(8)}},
		{[]byte{3, 5, 2, 1, 5, 1, 1}, 1, 18, []api.Run{packed(8), repeated(1), packed(9)}},
		{[]byte{3, 5, 3, 5}, 1, 11, []api.Run{packed(8), packed(3)}},
		{[]byte{2, 0, 2, 0}, 1, 2, []api.Run{repeated(1), repeated(1)}},
		{[]byte{18}, 0, 9, []api.Run{repeated(9)}},
		{[]byte{5}, 0, 9, []api.Run{packed(9)}},
		{[]byte{128, 128, 8, 1}, 1, api.MaxCount, []api.Run{repeated(api.MaxCount)}},
		{nil, 3, 0, nil},
	} {
		runs, e := hybrid.Runs(x.b, x.width, x.count)
		if !slices.Equal(runs, x.want) || e != api.OK {
			t.Errorf("Runs(%x, %d, %d): %v %v, not %v", x.b, x.width, x.count, runs, e, x.want)
		}
	}
}

// P11.3: whatever stands ahead of the end of what is written ends too early, whatever stands behind is too much.
func TestReadOfEachCut(t *testing.T) {
	r := rand.New(rand.NewPCG(4, 11))
	for range 20 {
		for width := range 33 {
			l := randomList(r, width, 60)
			b := told(width, l)
			for n := range b {
				readRefused(t, b[:n], width, len(l), api.ErrShort)
			}
			readRefused(t, append(b, byte(r.IntN(256))), width, len(l), api.ErrExtra)
		}
	}
}

// P11.1, P11.2, P11.3: runs, whoever made them, by their count and others; what is read, written, is read as the same.
func TestReadOfAnyRuns(t *testing.T) {
	r := rand.New(rand.NewPCG(5, 11))
	seen := map[api.Errno]int{}
	for range 4000 {
		for width := range 33 {
			b, count := randomHybrid(r, width)
			switch r.IntN(6) {
			case 0:
				b = b[:r.IntN(len(b)+1)]
			case 1:
				b = append(b, byte(r.IntN(256)))
			case 2:
				count = max(0, count-r.IntN(9))
			case 3:
				count += r.IntN(3)
			}
			want := wantAnswer(t, b, width, count)
			seen[want.e]++
			if want.e == api.OK {
				again, e := hybrid.Write(width, want.l...)
				if !slices.Equal(again, told(width, want.l)) || e != api.OK {
					t.Fatalf("%d: %v: %x %v", width, want.l, again, e)
				}
				wantRead(t, again, width, want.l)
			}
		}
	}
	for _, e := range []api.Errno{api.OK, api.ErrShort, api.ErrExtra, api.ErrForm} {
		if seen[e] < 1000 {
			t.Errorf("%v: only %d times", e, seen[e])
		}
	}
}

// P11.1, P11.2: any bytes, any widths and counts.
func TestReadOfAnyBytes(t *testing.T) {
	r := rand.New(rand.NewPCG(6, 11))
	for range 200000 {
		b := make([]byte, r.IntN(14))
		for i := range b {
			b[i] = byte(r.Uint64() >> r.IntN(64))
		}
		wantAnswer(t, b, r.IntN(37)-2, r.IntN(40)-2)
	}
}

// P11.1: all short bytes of one width.
func TestReadOfAllShortBytes(t *testing.T) {
	for n := range 1 << 16 {
		b := []byte{byte(n), byte(n >> 8)}
		for count := range 12 {
			wantAnswer(t, b, 1, count)
		}
	}
}

// P11.1, P11.2: bytes that are handed in are not changed, and not kept; each answer is new memory.
func TestBytesAreNotKept(t *testing.T) {
	r := rand.New(rand.NewPCG(7, 11))
	for width := range 33 {
		l := randomList(r, width, 60)
		b := append(told(width, l), 77, 78)
		before := slices.Clone(b)
		whole := b[:len(b)-2]
		got, e := hybrid.Read(whole, width, len(l))
		part, size, f := hybrid.Part(b, width, len(l))
		other, _ := hybrid.Read(whole, width, len(l))
		runs, _ := hybrid.Runs(whole, width, len(l))
		others, _ := hybrid.Runs(whole, width, len(l))
		if !slices.Equal(b, before) {
			t.Errorf("%d: %x, not %x", width, b, before)
		}
		want := slices.Clone(runs)
		clear(b)
		clear(other[:cap(other)])
		clear(others[:cap(others)])
		if !slices.Equal(got, l) || e != api.OK || !slices.Equal(part, l) || size != len(whole) || f != api.OK || !slices.Equal(runs, want) {
			t.Errorf("%d: %v %v, %v %d %v, not %v", width, got, e, part, size, f, l)
		}
	}
}

// P11.1: a head is a varint of layer 1, whatever it is.
func TestReadOfHeads(t *testing.T) {
	for shift := range 64 {
		for _, n := range []uint64{1<<shift - 1, 1 << shift, 1<<shift + 1} {
			h := bits.Varint(n)
			for _, count := range []int{1, 8, 100, api.MaxCount} {
				wantAnswer(t, append(slices.Clone(h), 1), 1, count)
				wantAnswer(t, h, 0, count)
				for cut := range h {
					readRefused(t, h[:cut], 0, count, api.ErrShort)
				}
				long := slices.Clone(h)
				long[len(long)-1] |= 128
				if len(long) < 10 {
					readRefused(t, append(long, 0), 0, count, api.ErrForm)
				}
			}
		}
	}
}
