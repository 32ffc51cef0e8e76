package hybrid_test

import (
	"math"
	"math/rand/v2"
	"slices"
	"testing"

	"marquetry/api"
	"marquetry/hybrid"
)

func times(n, number int) []int { return slices.Repeat([]int{number}, n) }

func join[T any](parts ...[]T) []T { return slices.Concat(parts...) }

// fromOneOn are the numbers 1 to n.
func fromOneOn(n int) []int {
	l := make([]int, n)
	for i := range l {
		l[i] = i + 1
	}
	return l
}

// wantWritten: are those the numbers' bytes, and are these read as they were?
func wantWritten(t *testing.T, width int, l []int, want []byte) {
	t.Helper()
	b, e := hybrid.Write(width, l...)
	if !slices.Equal(b, want) || e != api.OK {
		t.Errorf("Write(%d: %.100v (%d numbers)): %.40x (%d bytes) %v, not %.40x (%d bytes)", width, l, len(l), b, len(b), e, want, len(want))
	}
	wantRead(t, want, width, l)
}

func writeRefused(t *testing.T, width int, l []int, want api.Errno) {
	t.Helper()
	if b, e := hybrid.Write(width, l...); b != nil || e != want {
		t.Errorf("Write(%d: %.100v (%d numbers)): %.40x %v, not %v", width, l, len(l), b, e, want)
	}
}

// P11.1: the table of the chapter, and its like.
func TestWrite(t *testing.T) {
	for _, x := range []struct {
		width int
		l     []int
		want  []byte
	}{
		{3, times(10, 5), []byte{20, 5}},
		{1, []int{1, 0, 1}, []byte{3, 5}},
		{5, nil, nil},
		{0, nil, nil},
		{32, nil, nil},
		{0, times(1, 0), []byte{3}},
		{0, times(7, 0), []byte{3}},
		{0, times(8, 0), []byte{16}},
		{0, times(9, 0), []byte{18}},
		{0, times(64, 0), []byte{128, 1}},
		{1, times(1, 1), []byte{3, 1}},
		{1, times(7, 1), []byte{3, 127}},
		{1, times(8, 1), []byte{16, 1}},
		{1, times(7, 0), []byte{3, 0}},
		{1, times(8, 0), []byte{16, 0}},
		{3, []int{0, 1, 2, 3, 4, 5, 6, 7}, []byte{3, 136, 198, 250}},
		{8, fromOneOn(9), []byte{5, 1, 2, 3, 4, 5, 6, 7, 8, 9, 0, 0, 0, 0, 0, 0, 0}},
		{9, times(8, 256), []byte{16, 0, 1}},
		{16, times(8, 258), []byte{16, 2, 1}},
		{17, times(8, 65538), []byte{16, 2, 0, 1}},
		{24, times(8, 1<<24-1), []byte{16, 255, 255, 255}},
		{25, times(8, 1<<24+3), []byte{16, 3, 0, 0, 1}},
		{32, times(8, math.MaxUint32), []byte{16, 255, 255, 255, 255}},
		{32, []int{math.MaxUint32, 1}, []byte{3, 255, 255, 255, 255, 1, 0, 0, 0, 0, 0, 0, 0, 0, 0, 0, 0, 0, 0, 0, 0, 0, 0, 0, 0, 0, 0, 0, 0, 0, 0, 0, 0}},
		{12, []int{1, 4095}, []byte{3, 1, 240, 255, 0, 0, 0, 0, 0, 0, 0, 0, 0}},
		{7, times(8, 127), []byte{16, 127}},
	} {
		wantWritten(t, x.width, x.l, x.want)
	}
}

// P11.1: where a run ends, and the next one begins.
func TestWriteCutsRuns(t *testing.T) {
	eight := fromOneOn(8)
	for _, x := range []struct {
		what string
		l    []int
		want []byte
	}{
		{"two repeated ones", join(times(8, 1), times(9, 2)), []byte{16, 1, 18, 2}},
		{"all of those that are the same", times(100, 7), []byte{200, 1, 7}},
		{"packed behind repeated", join(times(8, 1), []int{2}), []byte{16, 1, 3, 2, 0, 0, 0, 0, 0, 0, 0}},
		{"repeated behind packed", join(eight, times(8, 9)), []byte{3, 1, 2, 3, 4, 5, 6, 7, 8, 16, 9}},
		{"seven the same are packed", join(eight, times(7, 9)), []byte{5, 1, 2, 3, 4, 5, 6, 7, 8, 9, 9, 9, 9, 9, 9, 9, 0}},
		{"seven noughts, filled up with one more, too", join(eight, times(7, 0)), []byte{5, 1, 2, 3, 4, 5, 6, 7, 8, 0, 0, 0, 0, 0, 0, 0, 0}},
		{"the same from within a group on, seven in the next", join(fromOneOn(7), times(8, 9)), []byte{5, 1, 2, 3, 4, 5, 6, 7, 9, 9, 9, 9, 9, 9, 9, 9, 0}},
		{"the same from within a group on, eight in the next", join(fromOneOn(7), times(9, 9)), []byte{3, 1, 2, 3, 4, 5, 6, 7, 9, 16, 9}},
		{"the same from within a group on, and all that are left", join(fromOneOn(7), times(20, 9), []int{1}), []byte{3, 1, 2, 3, 4, 5, 6, 7, 9, 38, 9, 3, 1, 0, 0, 0, 0, 0, 0, 0}},
		{"the same, but no group begins with them", join([]int{1}, times(14, 9), []int{2}), []byte{5, 1, 9, 9, 9, 9, 9, 9, 9, 9, 9, 9, 9, 9, 9, 9, 2}},
		{"groups go on from where a packed run begins", join(times(9, 5), eight, times(8, 6)), []byte{18, 5, 3, 1, 2, 3, 4, 5, 6, 7, 8, 16, 6}},
		{"two groups, then the same", join(fromOneOn(16), times(8, 0)), []byte{5, 1, 2, 3, 4, 5, 6, 7, 8, 9, 10, 11, 12, 13, 14, 15, 16, 16, 0}},
		{"the same, packed, the same, packed", join(times(8, 1), []int{2}, times(7, 1), times(8, 3), []int{4}), []byte{16, 1, 3, 2, 1, 1, 1, 1, 1, 1, 1, 16, 3, 3, 4, 0, 0, 0, 0, 0, 0, 0}},
	} {
		t.Run(x.what, func(t *testing.T) { wantWritten(t, 8, x.l, x.want) })
	}
}

// P11.1: a head of more than one byte.
func TestWriteOfLongRuns(t *testing.T) {
	wantWritten(t, 8, times(63, 4), []byte{126, 4})
	wantWritten(t, 8, times(64, 4), []byte{128, 1, 4})
	wantWritten(t, 2, times(api.MaxCount, 3), []byte{128, 128, 8, 3})
	for _, groups := range []int{62, 63, 64, 65, 8191, 8192} {
		l := make([]int, 8*groups)
		b := head(2*groups + 1)
		for i := range l {
			l[i] = i % 2
		}
		wantWritten(t, 1, l, join(b, slices.Repeat([]byte{0xaa}, groups)))
	}
}

// P11.1
func TestWriteOfWhatDoesNotFit(t *testing.T) {
	for width := range 33 {
		greatest := 1<<width - 1
		wantWritten(t, width, []int{greatest}, told(width, []int{greatest}))
		wantWritten(t, width, times(8, greatest), told(width, times(8, greatest)))
		for _, n := range []int{-1, -2, greatest + 1, 1 << 32, 1<<32 + 1, 1 << 62, math.MaxInt, math.MinInt, math.MinInt + 1} {
			writeRefused(t, width, []int{n}, api.ErrArg)
			writeRefused(t, width, []int{n, 0, 0}, api.ErrArg)
			writeRefused(t, width, []int{0, greatest, n}, api.ErrArg)
			writeRefused(t, width, times(9, n), api.ErrArg)
			// More than may be, and one of them does not fit: that is told.
			writeRefused(t, width, append(times(api.MaxCount, 0), n), api.ErrArg)
		}
	}
}

// noWidths are widths that may not be.
func noWidths() []int {
	return []int{-1, -2, 33, 34, 64, 65, 256, 1 << 32, 1<<32 + 1, math.MaxInt, math.MinInt, math.MinInt + 1}
}

// P11.1
func TestWriteByNoWidth(t *testing.T) {
	for _, width := range noWidths() {
		for _, l := range [][]int{nil, {0}, {1}, {-1}, times(8, 0), times(api.MaxCount+1, 0)} {
			writeRefused(t, width, l, api.ErrArg)
		}
	}
}

// P11.1: as many numbers as may be, and one more.
func TestWriteOfManyNumbers(t *testing.T) {
	r := rand.New(rand.NewPCG(1, 11))
	for _, width := range []int{0, 1, 7, 8, 31, 32} {
		l := make([]int, api.MaxCount)
		for i := range l {
			l[i] = int(r.Uint64() >> (64 - width))
		}
		if width == 0 {
			clear(l)
		}
		wantWritten(t, width, l, told(width, l))
		writeRefused(t, width, append(l, 0), api.ErrLong)
		writeRefused(t, width, times(api.MaxCount+1, 0), api.ErrLong)
		writeRefused(t, width, times(1<<20, 0), api.ErrLong)
	}
}

// P11.1, P11.3: each width, runs of each length.
func TestThereAndBack(t *testing.T) {
	r := rand.New(rand.NewPCG(2, 11))
	for range 150 {
		for width := range 33 {
			l := randomList(r, width, 200)
			wantWritten(t, width, l, told(width, l))
		}
	}
}

// P11.1, P11.3: all lists of truths of up to 18, and one behind one of all such runs.
func TestThereAndBackOfTruths(t *testing.T) {
	for count := range 19 {
		for n := range 1 << count {
			l := make([]int, count)
			for i := range l {
				l[i] = n >> i & 1
			}
			want := told(1, l)
			b, e := hybrid.Write(1, l...)
			again, f := hybrid.Read(b, 1, count)
			if !slices.Equal(b, want) || e != api.OK || !slices.Equal(again, l) || f != api.OK {
				t.Fatalf("%v: %x %v, not %x; read %v %v", l, b, e, want, again, f)
			}
		}
	}
	for first := range 30 {
		for second := range 30 {
			for third := range 30 {
				l := join(times(first, 1), times(second, 0), times(third, 1))
				wantWritten(t, 1, l, told(1, l))
			}
		}
	}
}

// P11.1: numbers that are handed in are not changed, nor what stands behind them; each answer is new memory.
func TestNumbersAreNotChanged(t *testing.T) {
	r := rand.New(rand.NewPCG(3, 11))
	for width := range 33 {
		room := append(randomList(r, width, 60), 1, 2, 3, 4, 5, 6, 7, 8, 9)
		n := len(room) - 9
		before := slices.Clone(room)
		a, _ := hybrid.Write(width, room[:n]...)
		b, _ := hybrid.Write(width, room[:n]...)
		clear(a[:cap(a)])
		if !slices.Equal(room, before) || !slices.Equal(b, told(width, before[:n])) {
			t.Errorf("%d: %v, not %v; %x", width, room, before, b)
		}
	}
}
