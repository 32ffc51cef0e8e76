package delta_test

import (
	"math"
	"math/big"
	"math/rand/v2"
	"slices"
	"testing"

	"marquetry/api"
	"marquetry/delta"
)

func times(n int, number int64) []int64 { return slices.Repeat([]int64{number}, n) }

func join[T any](parts ...[]T) []T { return slices.Concat(parts...) }

// front are some numbers of a list, so that not too many are told.
func front(l []int64) []int64 { return l[:min(len(l), 20)] }

// listOf is a list by its first number and the differences.
func listOf(n int64, differences ...int64) []int64 {
	l := []int64{n}
	for _, d := range differences {
		n += d
		l = append(l, n)
	}
	return l
}

// wantWritten: are those the numbers' bytes, and are these read as they were?
func wantWritten(t *testing.T, l []int64, want []byte) {
	t.Helper()
	if b, e := delta.Write(l...); !slices.Equal(b, want) || e != api.OK {
		t.Errorf("Write(%v (%d numbers)): %.40x (%d bytes) %v, not %.40x (%d bytes)", front(l), len(l), b, len(b), e, want, len(want))
	}
	wantRead(t, want, l)
}

// P13.1: the table of the chapter, and its like.
func TestWrite(t *testing.T) {
	greatest := slices.Repeat([]byte{255}, 9)
	for _, x := range []struct {
		l    []int64
		want []byte
	}{
		{nil, []byte{128, 1, 4, 0, 0}},
		{[]int64{5}, []byte{128, 1, 4, 1, 10}},
		{[]int64{0}, []byte{128, 1, 4, 1, 0}},
		{[]int64{-1}, []byte{128, 1, 4, 1, 1}},
		{[]int64{63}, []byte{128, 1, 4, 1, 126}},
		{[]int64{64}, []byte{128, 1, 4, 1, 128, 1}},
		{[]int64{-64}, []byte{128, 1, 4, 1, 127}},
		{[]int64{-65}, []byte{128, 1, 4, 1, 129, 1}},
		{[]int64{math.MaxInt64}, join([]byte{128, 1, 4, 1, 254}, greatest[:8], []byte{1})},
		{[]int64{math.MinInt64}, join([]byte{128, 1, 4, 1}, greatest, []byte{1})},
		{[]int64{1, 2, 3, 4, 5}, []byte{128, 1, 4, 5, 2, 2, 0, 0, 0, 0}},
		{[]int64{5, 4, 3}, []byte{128, 1, 4, 3, 10, 1, 0, 0, 0, 0}},
		{[]int64{3, 3}, []byte{128, 1, 4, 2, 6, 0, 0, 0, 0, 0}},
		{[]int64{7, 5, 3, 1, 2, 3, 4, 5}, []byte{128, 1, 4, 8, 14, 3, 2, 0, 0, 0, 0xc0, 0x3f, 0, 0, 0, 0, 0, 0}},
		{[]int64{0, 0, 1}, []byte{128, 1, 4, 3, 0, 0, 1, 0, 0, 0, 2, 0, 0, 0}},
		{[]int64{0, 1, 0}, []byte{128, 1, 4, 3, 0, 1, 2, 0, 0, 0, 2, 0, 0, 0, 0, 0, 0, 0}},
		{[]int64{0, 100, 455}, join([]byte{128, 1, 4, 3, 0, 200, 1, 8, 0, 0, 0, 0, 255}, make([]byte, 30))},
		// Differences of more than 64 bits go round.
		{[]int64{math.MinInt64, math.MaxInt64}, join([]byte{128, 1, 4, 2}, greatest, []byte{1, 1, 0, 0, 0, 0})},
		{[]int64{math.MaxInt64, math.MinInt64}, join([]byte{128, 1, 4, 2, 254}, greatest[:8], []byte{1, 2, 0, 0, 0, 0})},
		{[]int64{0, math.MinInt64}, join([]byte{128, 1, 4, 2, 0}, greatest, []byte{1, 0, 0, 0, 0})},
		{[]int64{1, math.MinInt64}, join([]byte{128, 1, 4, 2, 2, 254}, greatest[:8], []byte{1, 0, 0, 0, 0})},
		// The least difference and the greatest: 64 bits are between them.
		{listOf(0, math.MinInt64, math.MaxInt64), join([]byte{128, 1, 4, 3, 0}, greatest, []byte{1, 64, 0, 0, 0}, make([]byte, 8), slices.Repeat([]byte{255}, 8), make([]byte, 30*8))},
	} {
		wantWritten(t, x.l, x.want)
		wantWritten(t, x.l, told(x.l))
	}
}

// P13.1: a block has 128 differences, a part 32, and either may have fewer at the end.
func TestWriteCutsBlocksAndParts(t *testing.T) {
	one := func(n int) []int64 { return times(n, 1) }
	ones := func(n int) []byte { return slices.Repeat([]byte{255}, n) }
	for _, x := range []struct {
		what        string
		differences []int64
		want        []byte
	}{
		{"a part", join([]int64{0}, one(31)), join([]byte{0, 1, 0, 0, 0, 254}, ones(3))},
		{"a part, and one of the next", join([]int64{0}, one(32)), join([]byte{0, 1, 1, 0, 0, 254}, ones(3), []byte{1, 0, 0, 0})},
		{"two parts", join([]int64{0}, one(63)), join([]byte{0, 1, 1, 0, 0, 254}, ones(7))},
		{"two, and one of the next", join([]int64{0}, one(64)), join([]byte{0, 1, 1, 1, 0, 254}, ones(7), []byte{1, 0, 0, 0})},
		{"three parts", join([]int64{0}, one(95)), join([]byte{0, 1, 1, 1, 0, 254}, ones(11))},
		{"three, and one of the next", join([]int64{0}, one(96)), join([]byte{0, 1, 1, 1, 1, 254}, ones(11), []byte{1, 0, 0, 0})},
		{"a block", join([]int64{0}, one(127)), join([]byte{0, 1, 1, 1, 1, 254}, ones(15))},
		{"a block, and one of the next", join([]int64{0}, one(128)), join([]byte{0, 1, 1, 1, 1, 254}, ones(15), []byte{2, 0, 0, 0, 0})},
		{"two blocks", join([]int64{0}, one(128), []int64{3}, one(126)), join([]byte{0, 1, 1, 1, 1, 254}, ones(15), []byte{2, 2, 0, 0, 0, 8, 0, 0, 0, 0, 0, 0, 0})},
		{"two blocks, and one of the next", join(one(256), []int64{-7}), []byte{2, 0, 0, 0, 0, 2, 0, 0, 0, 0, 13, 0, 0, 0, 0}},
		{"a width for each part, the least that of the block", join(times(32, 1), times(32, 3), times(32, 9), times(32, 0)), join([]byte{0, 1, 2, 4, 0}, ones(4), ones(8), slices.Repeat([]byte{0x99}, 16))},
		{"the least in the last part", join(times(32, 4), times(32, 4), times(32, 4), times(31, 4), []int64{-3}), join([]byte{5, 3, 3, 3, 3}, ones(47), []byte{0x1f})},
		{"a part of width 0 between others", join(times(32, 3), times(32, 2), []int64{3, 2}), join([]byte{4, 1, 0, 1, 0}, ones(4), []byte{1, 0, 0, 0})},
	} {
		t.Run(x.what, func(t *testing.T) {
			l := listOf(10, x.differences...)
			wantWritten(t, l, join(headOf(len(l)), []byte{20}, x.want))
			wantWritten(t, l, told(l))
		})
	}
}

// P13.1, P13.3: each count up to three blocks.
func TestWriteOfEachCount(t *testing.T) {
	r := rand.New(rand.NewPCG(1, 13))
	for count := range 400 {
		l := make([]int64, count)
		for i := range l {
			l[i] = r.Int64N(1000) - 500
		}
		wantWritten(t, l, told(l))
		same := times(count, int64(r.Uint64()))
		wantWritten(t, same, told(same))
	}
}

// P13.1: each width, by the least and the greatest number that has it.
func TestWriteByEachWidth(t *testing.T) {
	for width := range 65 {
		greatest := power(width).Sub(power(width), whole(1))
		for _, above := range []uint64{greatest.Uint64(), greatest.Uint64()/2 + uint64(min(width, 1))} {
			for _, least := range []int64{0, -1, 1, 77, math.MinInt64} {
				if width == 64 || width == 63 && least > 0 {
					least = math.MinInt64 // only the least of all is so far below another
				}
				for part := range 4 {
					wantWidth(t, width, above, least, part)
				}
			}
		}
	}
}

// wantWidth: has a part such a width, of whose differences one is above the least?
func wantWidth(t *testing.T, width int, above uint64, least int64, part int) {
	t.Helper()
	place := width % 32
	differences := times(128, least)
	differences[32*part+place] += int64(above)
	widths := make([]byte, 4)
	widths[part] = byte(width)
	body := make([]byte, 4*width)
	for bit := range width {
		at := place*width + bit
		body[at/8] |= byte(above>>bit&1) << (at % 8)
	}
	wantWritten(t, listOf(9, differences...), join(headOf(129), []byte{18}, signed(whole(least)), widths, body))
}

// P13.1: as many numbers as may be, and more.
func TestWriteOfManyNumbers(t *testing.T) {
	r := rand.New(rand.NewPCG(2, 13))
	mixed := make([]int64, api.MaxCount)
	for i := range mixed {
		mixed[i] = int64(r.Uint64())
	}
	for _, l := range [][]int64{mixed, mixed[:api.MaxCount-1], times(api.MaxCount, 7), times(api.MaxCount, math.MinInt64)} {
		wantWritten(t, l, told(l))
		if b, _ := delta.Write(l...); len(b) >= api.MaxBytes {
			t.Errorf("%d bytes of %d numbers", len(b), len(l))
		}
	}
	for _, l := range [][]int64{append(mixed, 0), times(api.MaxCount+1, 0), times(api.MaxCount+128, 1), times(1<<20, 5)} {
		if b, e := delta.Write(l...); b != nil || e != api.ErrLong {
			t.Errorf("Write(%d numbers): %.40x %v", len(l), b, e)
		}
	}
}

// P13.1, P13.3: lists of all kinds.
func TestThereAndBack(t *testing.T) {
	r := rand.New(rand.NewPCG(3, 13))
	for range 1500 {
		l := randomList(r, 400)
		wantWritten(t, l, told(l))
	}
	edges := []int64{0, 1, -1, 2, math.MaxInt64, math.MaxInt64 - 1, math.MinInt64, math.MinInt64 + 1, 1 << 62, -1 << 62}
	for range 1500 {
		l := make([]int64, r.IntN(140))
		for i := range l {
			l[i] = edges[r.IntN(len(edges))]
		}
		wantWritten(t, l, told(l))
	}
}

// P13.3: numbers that are moved on by as much, all, have as many bytes behind the first one: the same, even.
func TestWriteOfMovedNumbers(t *testing.T) {
	r := rand.New(rand.NewPCG(4, 13))
	behindFirst := func(l []int64) []byte {
		b, e := delta.Write(l...)
		if e != api.OK {
			t.Fatalf("%v: %v", front(l), e)
		}
		return b[len(headOf(len(l)))+len(signed(whole(l[0]))):]
	}
	for range 500 {
		l := append(randomList(r, 300), int64(r.Uint64()))
		by := int64(r.Uint64()) >> r.IntN(64)
		moved := slices.Clone(l)
		for i := range moved {
			moved[i] += by
		}
		if b, c := behindFirst(l), behindFirst(moved); !slices.Equal(b, c) {
			t.Errorf("%v by %d: %x, moved %x", front(l), by, b, c)
		}
	}
}

// P13.1
func TestPack(t *testing.T) {
	for _, x := range []struct {
		width int
		l     []int64
		want  []byte
	}{
		{3, []int64{0, 1, 2, 3, 4, 5, 6, 7}, []byte{136, 198, 250}},
		{1, []int64{1, 0, 1}, []byte{5}},
		{1, []int64{1, 1, 1, 1, 1, 1, 1, 1, 1}, []byte{255, 1}},
		{2, []int64{0, 0, 0, 3, 3, 3, 3}, []byte{0xc0, 0x3f}},
		{8, []int64{1, 2, 255}, []byte{1, 2, 255}},
		{12, []int64{1, 4095}, []byte{1, 240, 255}},
		{64, []int64{1, -1}, []byte{1, 0, 0, 0, 0, 0, 0, 0, 255, 255, 255, 255, 255, 255, 255, 255}},
		{64, []int64{math.MinInt64, math.MaxInt64}, []byte{0, 0, 0, 0, 0, 0, 0, 128, 255, 255, 255, 255, 255, 255, 255, 127}},
		{63, []int64{math.MinInt64}, make([]byte, 8)},
		{63, []int64{-1}, []byte{255, 255, 255, 255, 255, 255, 255, 127}},
		// Of each its lowest bits.
		{3, []int64{8, 9, 255}, []byte{0b11001000, 1}},
		{3, []int64{-1, -2, -8}, []byte{0b00110111, 0}},
		{1, []int64{-1, -2, 3, 2}, []byte{5}},
		{0, []int64{0, 1, -1, math.MaxInt64}, nil},
		{0, nil, nil},
		{1, nil, nil},
		{64, nil, nil},
		{5, []int64{31}, []byte{31}},
	} {
		if b := delta.Pack(x.width, x.l...); !slices.Equal(b, x.want) {
			t.Errorf("Pack(%d: %v): %x, not %x", x.width, x.l, b, x.want)
		}
	}
}

// P13.1: each width, any numbers, any number of them.
func TestPackByEachWidth(t *testing.T) {
	r := rand.New(rand.NewPCG(5, 13))
	for range 20 {
		for width := range 65 {
			l := make([]int64, r.IntN(50))
			lowest := make([]*big.Int, len(l))
			for i := range l {
				l[i] = int64(r.Uint64()) >> r.IntN(64)
				lowest[i] = new(big.Int).Mod(whole(l[i]), power(width))
			}
			if b, want := delta.Pack(width, l...), packed(width, lowest); !slices.Equal(b, want) {
				t.Errorf("Pack(%d: %v): %x, not %x", width, l, b, want)
			}
		}
	}
	// No bound is set on how many they are.
	if b := delta.Pack(1, times(api.MaxCount+9, -1)...); len(b) != api.MaxCount/8+2 || b[len(b)-1] != 1 {
		t.Errorf("%d bytes", len(b))
	}
}

// P13.1
func TestPackByNoWidth(t *testing.T) {
	for _, width := range []int{-1, -2, -8, -64, 65, 66, 72, 128, 256, 1 << 32, 1<<32 + 1, math.MaxInt, math.MinInt, math.MinInt + 1} {
		for _, l := range [][]int64{nil, {0}, {1, 2, 3}, times(32, -1)} {
			if b := delta.Pack(width, l...); len(b) != 0 {
				t.Errorf("Pack(%d: %v): %x", width, l, b)
			}
		}
	}
}

// P13.1
func TestWidth(t *testing.T) {
	want := map[int64]int{0: 0, 1: 1, 2: 2, 3: 2, 4: 3, 7: 3, 8: 4, 255: 8, 256: 9, math.MaxInt64: 63, -1: 64, -2: 64, math.MinInt64: 64, math.MinInt64 + 1: 64}
	for bits := range 63 {
		want[1<<bits] = bits + 1
		want[1<<bits-1] = bits
		want[-1<<bits] = 64
	}
	for n, width := range want {
		if got := delta.Width(n); got != width {
			t.Errorf("Width(%d): %d, not %d", n, got, width)
		}
	}
}

// P13.1: numbers that are handed in are not changed, nor what stands behind them; each answer is new memory.
func TestNumbersAreNotChanged(t *testing.T) {
	r := rand.New(rand.NewPCG(6, 13))
	for range 100 {
		room := append(randomList(r, 300), times(200, 3)...)
		n := len(room) - 200
		before := slices.Clone(room)
		a, _ := delta.Write(room[:n]...)
		b, _ := delta.Write(room[:n]...)
		c := delta.Pack(7, room[:n]...)
		d := delta.Pack(7, room[:n]...)
		want := slices.Clone(d)
		clear(a[:cap(a)])
		clear(c[:cap(c)])
		if !slices.Equal(room, before) || !slices.Equal(b, told(before[:n])) || !slices.Equal(d, want) {
			t.Errorf("%v, not %v; %x; %x", room, before, b, d)
		}
	}
}
