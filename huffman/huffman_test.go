package huffman_test

import (
	"math"
	"math/rand/v2"
	"slices"
	"testing"

	"marquetry/api"
	"marquetry/huffman"
)

// full is what complete lengths weigh.
const full = 1 << 15

func times(n, what int) []int { return slices.Repeat([]int{what}, n) }

func join(parts ...[]int) []int { return slices.Concat(parts...) }

// fixed are the lengths of a fixed block of layer 6.
func fixed() []int { return join(times(144, 8), times(112, 9), times(24, 7), times(8, 8)) }

// staircase is 1, 2, 3, up to n, and n once more.
func staircase(n int) []int {
	var l []int
	for i := range n {
		l = append(l, i+1)
	}
	return append(l, n)
}

// weight is the chapter's words.
func weight(lengths []int) int {
	sum := 0
	for _, l := range lengths {
		if l != 0 {
			sum += 1 << (15 - l)
		}
	}
	return sum
}

// randomLengths are those of n symbols, not over-full; complete, if there are enough symbols that fill them.
func randomLengths(r *rand.Rand, n int) []int {
	l, left := make([]int, n), full
	least := 1 + r.IntN(14)
	for i := range l {
		length := least + r.IntN(16-least)
		if r.IntN(4) > 0 && 1<<(15-length) <= left {
			l[i], left = length, left-1<<(15-length)
		}
	}
	r.Shuffle(n, func(i, j int) { l[i], l[j] = l[j], l[i] })
	return l
}

// completed is lengths with symbols behind them that make them complete.
func completed(lengths []int) []int {
	l := slices.Clone(lengths)
	for left := full - weight(l); left > 0; {
		length := 1
		for 1<<(15-length) > left {
			length++
		}
		l, left = append(l, length), left-1<<(15-length)
	}
	return l
}

// notFull are lengths that have codes.
func notFull() [][]int {
	l := [][]int{
		nil, {}, {0}, {0, 0, 0}, {1}, {15}, {0, 7, 0}, {1, 1}, {1, 2}, {2, 1, 3, 3}, {3, 3, 3, 3, 3}, {15, 15, 1}, {15, 1, 14},
		{2, 3, 3, 2, 2}, {2, 3, 3, 2, 0, 3}, {2, 0, 2, 2, 2}, {9, 4, 9, 4, 0, 1},
		fixed(), times(32, 5), times(30, 5), staircase(15), staircase(1),
		times(1000, 0), times(1000, 15), times(1000, 10), join(times(999, 0), []int{1}), join(times(24, 9), times(976, 10)), completed(times(900, 10)),
	}
	r := rand.New(rand.NewPCG(1, 5))
	for n := range 300 {
		lengths := randomLengths(r, n)
		l = append(l, lengths)
		if whole := completed(lengths); len(whole) <= api.MaxSymbols {
			r.Shuffle(len(whole), func(i, j int) { whole[i], whole[j] = whole[j], whole[i] })
			l = append(l, whole)
		}
	}
	return l
}

// overFull are lengths that weigh more than 2^15, some of them only just.
func overFull() [][]int {
	l := [][]int{
		{1, 1, 1}, {1, 1, 15}, {15, 1, 1}, {1, 1, 0, 0, 9}, {1, 2, 2, 15}, {2, 1, 3, 3, 3}, {2, 3, 3, 2, 2, 3, 3}, times(5, 2), times(9, 3),
		append(staircase(15), 15), append(staircase(14), 15), append(fixed(), 15), times(33, 5), times(1000, 1), times(1000, 9), times(513, 9),
		join([]int{1, 1}, times(997, 0), []int{15}), join(times(25, 9), times(975, 10)),
	}
	for _, whole := range notFull() {
		if weight(whole) == full && len(whole) < api.MaxSymbols {
			l = append(l, append(slices.Clone(whole), 15), append([]int{15}, whole...))
		}
	}
	return l
}

// noLengths are numbers of which one is no length, at the front, within, at the end, and in lists that are too long.
func noLengths() [][]int {
	var l [][]int
	for _, n := range []int{-1, -15, 16, 17, 255, 1 << 32, math.MinInt, math.MaxInt} {
		l = append(l, []int{n}, []int{n, 1, 1}, []int{1, n, 1}, []int{1, 1, n}, []int{1, 1, 1, n}, []int{0, n},
			join(times(999, 0), []int{n}), join(times(1000, 0), []int{n}), join([]int{n}, times(1000, 15)), join(times(5000, 1), []int{n}))
	}
	return l
}

// P5.1
func TestWeigh(t *testing.T) {
	for _, x := range []struct {
		lengths []int
		want    int
	}{
		{nil, 0}, {[]int{}, 0}, {[]int{0}, 0}, {times(1000, 0), 0},
		{[]int{1}, 1 << 14}, {[]int{15}, 1}, {[]int{14}, 2}, {[]int{8}, 128}, {[]int{0, 15, 0, 15}, 2},
		{[]int{1, 1}, full}, {[]int{2, 1, 3, 3}, full}, {[]int{1, 1, 1}, 3 << 14}, {[]int{1, 1, 15}, full + 1}, {[]int{1, 2, 2, 15}, full + 1},
		{fixed(), full}, {times(32, 5), full}, {times(30, 5), 30 << 10}, {staircase(15), full}, {staircase(15)[1:], full / 2},
		{times(1000, 1), 1000 << 14}, {times(1000, 15), 1000},
	} {
		if n, e := huffman.Weigh(x.lengths); n != x.want || e != api.OK {
			t.Errorf("Weigh(%.60v..): %d %v, not %d", x.lengths, n, e, x.want)
		}
	}
	for length := 1; length <= 15; length++ {
		if n, e := huffman.Weigh([]int{length}); n != 1<<(15-length) || e != api.OK {
			t.Errorf("Weigh(%d): %d %v", length, n, e)
		}
	}
	for _, lengths := range append(notFull(), overFull()...) {
		if n, e := huffman.Weigh(lengths); n != weight(lengths) || e != api.OK {
			t.Errorf("Weigh(%v): %d %v, not %d", lengths, n, e, weight(lengths))
		}
	}
}

// P5.1: a length that may not be is told ahead of too many, wherever it stands.
func TestWeighOfWhatIsNone(t *testing.T) {
	for _, lengths := range noLengths() {
		if n, e := huffman.Weigh(lengths); n != 0 || e != api.ErrArg {
			t.Errorf("Weigh of %d with one that is none: %d %v", len(lengths), n, e)
		}
	}
	for _, lengths := range [][]int{times(1001, 0), times(1001, 15), times(1001, 1), times(100000, 3)} {
		if n, e := huffman.Weigh(lengths); n != 0 || e != api.ErrLong {
			t.Errorf("Weigh of %d: %d %v", len(lengths), n, e)
		}
	}
}

// keepsNothing: a call changes neither the list nor what stands behind it, and each answer is memory of its own.
func keepsNothing(t *testing.T, list []int, call func([]int) []int) {
	t.Helper()
	room := join(list, []int{-7, -8, -9})
	was := slices.Clone(room)
	first, second := call(room[:len(list)]), call(room[:len(list)])
	want := slices.Clone(second)
	for i := range first {
		first[i] = -1
	}
	_ = append(first, -2, -3)
	if !slices.Equal(room, was) {
		t.Errorf("%v became %v", was, room)
	}
	for i := range room {
		room[i] = -4
	}
	if !slices.Equal(second, want) {
		t.Errorf("%v: the answer changed from %v to %v", list, want, second)
	}
}
