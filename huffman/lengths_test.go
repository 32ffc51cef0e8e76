package huffman_test

import (
	"math"
	"math/big"
	"math/rand/v2"
	"slices"
	"testing"

	"marquetry/api"
	"marquetry/huffman"
)

const mostCount = 1<<31 - 1

func withCounts(counts []int) int {
	n := 0
	for _, c := range counts {
		if c > 0 {
			n++
		}
	}
	return n
}

func sum(l []int) int {
	n := 0
	for _, x := range l {
		n += x
	}
	return n
}

// leastCost is what least lengths for two or more counts cost, by trying how many of the greatest ones that are left have codes of 1 bit, of 2, and so on.
func leastCost(counts []int, limit int) int {
	var l []int
	for _, c := range counts {
		if c > 0 {
			l = append(l, c)
		}
	}
	slices.Sort(l)
	slices.Reverse(l)
	type state struct{ depth, given, free int }
	known := map[state]int{}
	var from func(s state) int
	from = func(s state) int {
		left := len(l) - s.given
		if left == 0 && s.free == 0 {
			return 0
		}
		if s.free == 0 || s.free > left || s.depth == limit && s.free < left {
			return math.MaxInt
		}
		if cost, there := known[s]; there {
			return cost
		}
		best := math.MaxInt
		for n := range s.free + 1 {
			next := state{s.depth + 1, s.given + n, 2 * (s.free - n)}
			rest := from(next)
			if rest < math.MaxInt {
				best = min(best, rest+sum(l[next.given:]))
			}
		}
		known[s] = best
		return best
	}
	return from(state{0, 0, 1})
}

// tried is what least lengths cost, by trying all of them.
func tried(counts []int, limit int) int {
	lengths, best := make([]int, len(counts)), math.MaxInt
	var from func(i int)
	from = func(i int) {
		if i == len(counts) {
			cost := 0
			for k, c := range counts {
				cost += c * lengths[k]
			}
			if weight(lengths) == full {
				best = min(best, cost)
			}
			return
		}
		for l := range limit + 1 {
			if (l == 0) == (counts[i] == 0) {
				lengths[i] = l
				from(i + 1)
			}
		}
	}
	from(0)
	return best
}

// checked is Lengths, if each of them is there just where a count is, none is above the limit, they are complete (or one alone, of length 1), no greater count has a greater one, and Weigh, Codes and Cost say the same.
func checked(t *testing.T, counts []int, limit int) []int {
	t.Helper()
	lengths, e := huffman.Lengths(counts, limit)
	if e != api.OK || len(lengths) != len(counts) {
		t.Fatalf("Lengths(%v, %d): %v %v", counts, limit, lengths, e)
	}
	n, cost := withCounts(counts), 0
	for i, l := range lengths {
		if l < 0 || l > limit || (l == 0) != (counts[i] == 0) {
			t.Fatalf("Lengths(%v, %d): %v", counts, limit, lengths)
		}
		cost += l * counts[i]
	}
	if n == 1 && slices.Max(lengths) != 1 || n == 0 && sum(lengths) != 0 {
		t.Fatalf("Lengths(%v, %d): %v", counts, limit, lengths)
	}
	if w, e := huffman.Weigh(lengths); e != api.OK || n > 1 && w != full || w != weight(lengths) {
		t.Fatalf("Lengths(%v, %d): %v weigh %d, %v", counts, limit, lengths, w, e)
	}
	if _, e := huffman.Codes(lengths); e != api.OK {
		t.Fatalf("Lengths(%v, %d): %v have no codes: %v", counts, limit, lengths, e)
	}
	if told := huffman.Cost(counts, lengths); told != cost {
		t.Fatalf("Cost(%v, %v): %d, not %d", counts, lengths, told, cost)
	}
	mustNotRise(t, counts, lengths)
	return lengths
}

// mustNotRise: P5.3: of symbols with counts one with a greater count has no greater length.
func mustNotRise(t *testing.T, counts, lengths []int) {
	t.Helper()
	var order []int
	for i, c := range counts {
		if c > 0 {
			order = append(order, i)
		}
	}
	slices.SortFunc(order, func(a, b int) int { return counts[a] - counts[b] })
	least := 15
	for i, from := 0, 0; i < len(order); i++ {
		if counts[order[i]] > counts[order[from]] {
			for ; from < i; from++ {
				least = min(least, lengths[order[from]])
			}
		}
		if lengths[order[i]] > least {
			t.Fatalf("%v: %v: a greater count has a greater length", counts, lengths)
		}
	}
}

// P5.2
func TestLengths(t *testing.T) {
	for _, x := range []struct {
		counts []int
		limit  int
		want   []int
	}{
		{[]int{5, 0, 2, 1, 1}, 15, []int{1, 0, 2, 3, 3}},
		{[]int{5, 0, 2, 1, 1}, 3, []int{1, 0, 2, 3, 3}},
		{[]int{5, 0, 2, 1, 1}, 2, []int{2, 0, 2, 2, 2}},
		{[]int{7}, 15, []int{1}}, {[]int{7}, 1, []int{1}}, {[]int{mostCount}, 1, []int{1}}, {[]int{1}, 15, []int{1}},
		{[]int{0, 0, 3, 0}, 1, []int{0, 0, 1, 0}},
		{[]int{0, 0}, 15, []int{0, 0}}, {[]int{0}, 1, []int{0}}, {nil, 15, nil}, {[]int{}, 1, nil}, {times(1000, 0), 1, times(1000, 0)},
		{[]int{1, 1}, 1, []int{1, 1}}, {[]int{1, mostCount}, 15, []int{1, 1}}, {[]int{0, 9, 0, 1}, 1, []int{0, 1, 0, 1}},
		{[]int{4, 3, 3, 3}, 2, []int{2, 2, 2, 2}}, {[]int{1, 1, 5}, 15, []int{2, 2, 1}},
		{times(256, 3), 8, times(256, 8)}, {times(256, 3), 15, times(256, 8)}, {times(512, mostCount), 9, times(512, 9)}, {times(2, 1), 15, times(2, 1)},
		{[]int{1, 1, 2, 4, 8, 16, 32}, 15, []int{6, 6, 5, 4, 3, 2, 1}},
		{[]int{1, 2, 4, 8, 16, 32, 64, 128, 256, 512, 1024, 2048, 4096, 8192, 16384, 32768}, 15, []int{15, 15, 14, 13, 12, 11, 10, 9, 8, 7, 6, 5, 4, 3, 2, 1}},
	} {
		if l := checked(t, x.counts, x.limit); !slices.Equal(l, x.want) {
			t.Errorf("Lengths(%v, %d): %v, not %v", x.counts, x.limit, l, x.want)
		}
	}
}

// P5.2
func TestCostsOfTheExamples(t *testing.T) {
	counts := []int{5, 0, 2, 1, 1}
	for limit, want := range map[int]int{15: 15, 3: 15, 2: 18} {
		if cost := huffman.Cost(counts, checked(t, counts, limit)); cost != want {
			t.Errorf("%v within %d: %d, not %d", counts, limit, cost, want)
		}
	}
}

// P5.2
func TestLengthsOfWhatMayNotBe(t *testing.T) {
	for _, x := range []struct {
		counts []int
		limit  int
		want   api.Errno
	}{
		{[]int{1, 1}, 0, api.ErrArg}, {[]int{1, 1}, 16, api.ErrArg}, {[]int{1, 1}, -1, api.ErrArg}, {[]int{1, 1}, math.MinInt, api.ErrArg}, {[]int{1, 1}, math.MaxInt, api.ErrArg}, {[]int{1, 1}, 64, api.ErrArg},
		{nil, 0, api.ErrArg}, {nil, 16, api.ErrArg}, {[]int{0}, 0, api.ErrArg}, {[]int{7}, 0, api.ErrArg},
		{[]int{-1}, 15, api.ErrArg}, {[]int{1, -1}, 15, api.ErrArg}, {[]int{mostCount + 1}, 15, api.ErrArg}, {[]int{1, 1, 1, mostCount + 1}, 15, api.ErrArg}, {[]int{math.MinInt, 1}, 15, api.ErrArg}, {[]int{1, math.MaxInt}, 15, api.ErrArg},
		{[]int{1 << 32, 1}, 15, api.ErrArg},
		// ErrArg is told ahead of ErrLong and ErrFull, wherever it lies.
		{times(1001, 1), 0, api.ErrArg}, {times(1001, 0), 16, api.ErrArg}, {join(times(1001, 1), []int{-1}), 15, api.ErrArg}, {join(times(1000, 0), []int{mostCount + 1}), 15, api.ErrArg}, {join([]int{-1}, times(5000, 1)), 1, api.ErrArg},
		{[]int{1, 1, 1, -1}, 1, api.ErrArg}, {[]int{1, 1, 1}, 0, api.ErrArg},
		// ErrLong ahead of ErrFull.
		{times(1001, 0), 15, api.ErrLong}, {times(1001, 1), 15, api.ErrLong}, {times(1001, 1), 1, api.ErrLong}, {times(70000, mostCount), 9, api.ErrLong},
		{[]int{1, 1, 1}, 1, api.ErrFull}, {[]int{1, 0, 1, 0, 1}, 1, api.ErrFull}, {times(5, 1), 2, api.ErrFull}, {times(1000, 1), 9, api.ErrFull}, {join(times(487, 0), times(513, 1)), 9, api.ErrFull}, {times(1000, mostCount), 1, api.ErrFull},
	} {
		if l, e := huffman.Lengths(x.counts, x.limit); l != nil || e != x.want {
			t.Errorf("Lengths of %d counts (%.60v..), %d: %v %v, not %v", len(x.counts), x.counts, x.limit, l, e, x.want)
		}
	}
}

// P5.2: as many symbols as a limit lets have codes, and one more.
func TestLengthsAtTheEdgesOfALimit(t *testing.T) {
	r := rand.New(rand.NewPCG(3, 5))
	for limit := 1; limit <= 15; limit++ {
		for _, n := range []int{1, 2, 3, 1<<limit - 1, 1 << limit, 1<<limit + 1} {
			if n > api.MaxSymbols {
				continue
			}
			counts := make([]int, n)
			for i := range counts {
				counts[i] = 1 + r.IntN(1<<r.IntN(31))
			}
			if n > 1<<limit {
				if l, e := huffman.Lengths(counts, limit); l != nil || e != api.ErrFull {
					t.Errorf("%d symbols within %d: %v %v", n, limit, l, e)
				}
				continue
			}
			counts = slices.Insert(counts, r.IntN(n), 0)
			l := checked(t, counts[:min(len(counts), api.MaxSymbols)], limit)
			if n == 1<<limit && slices.Min(slices.DeleteFunc(l, func(x int) bool { return x == 0 })) != limit {
				t.Errorf("%d symbols within %d: %v", n, limit, l)
			}
		}
	}
}

// P5.2: all counts of up to 5 symbols, each of a few.
func TestLengthsAreTheLeast(t *testing.T) {
	for _, few := range [][]int{{0, 1, 2, 3, 5}, {0, 1, 7, 1000, mostCount}} {
		for n := range 6 {
			counts := make([]int, n)
			for number := range int(math.Pow(5, float64(n))) {
				for i := range counts {
					counts[i] = few[number%5]
					number /= 5
				}
				for limit := 1; limit <= 4; limit++ {
					symbols := withCounts(counts)
					if symbols > 1<<limit || symbols < 2 {
						continue
					}
					if cost := huffman.Cost(counts, checked(t, counts, limit)); cost != tried(counts, limit) {
						t.Fatalf("%v within %d: %d, not %d", counts, limit, cost, tried(counts, limit))
					}
				}
			}
		}
	}
}

// randomCounts are those of n symbols: of one size, of all sizes, rising like rabbits, or few different ones.
func randomCounts(r *rand.Rand, n int) []int {
	counts, a, b := make([]int, n), 1, 1
	kind := r.IntN(4)
	for i := range counts {
		switch kind {
		case 0:
			counts[i] = r.IntN(100)
		case 1:
			counts[i] = r.IntN(1 << (1 + r.IntN(31)))
		case 2:
			counts[i] = min(a, mostCount)
			a, b = b, min(a+b, mostCount)
		case 3:
			counts[i] = 1 << r.IntN(3)
		}
	}
	r.Shuffle(n, func(i, j int) { counts[i], counts[j] = counts[j], counts[i] })
	return counts
}

// P5.2: counts of more symbols, within all limits.
func TestLengthsAreTheLeastOfManySymbols(t *testing.T) {
	r := rand.New(rand.NewPCG(4, 5))
	for range 60 {
		counts := randomCounts(r, 2+r.IntN(50))
		for limit := 1; limit <= 15; limit++ {
			n := withCounts(counts)
			if n > 1<<limit || n < 2 {
				continue
			}
			if cost, want := huffman.Cost(counts, checked(t, counts, limit)), leastCost(counts, limit); cost != want {
				t.Fatalf("%v within %d: %d, not %d", counts, limit, cost, want)
			}
		}
	}
}

// huffmanCost is what least lengths cost, without a limit: the two least are put together, until one is left.
func huffmanCost(counts []int) int {
	l, cost := slices.DeleteFunc(slices.Clone(counts), func(c int) bool { return c == 0 }), 0
	for len(l) > 1 {
		slices.Sort(l)
		l = append(l[2:], l[0]+l[1])
		cost += l[len(l)-1]
	}
	return cost
}

// P5.2: where no code would be too long, a limit costs nothing; else it costs something, and the less the greater it is.
func TestLengthsOfAThousandSymbols(t *testing.T) {
	r := rand.New(rand.NewPCG(5, 5))
	for i := range 40 {
		counts := randomCounts(r, api.MaxSymbols)
		if i%2 == 0 {
			for k := range counts {
				counts[k] = 1000 + r.IntN(5000)
			}
		}
		last, least := math.MaxInt, huffmanCost(counts)
		for limit := 10; limit <= 15; limit++ {
			cost := huffman.Cost(counts, checked(t, counts, limit))
			if cost > last || cost < least || i%2 == 0 && limit >= 13 && cost != least {
				t.Fatalf("%v within %d: %d; within less %d, within none %d", counts, limit, cost, last, least)
			}
			last = cost
		}
	}
	checked(t, times(1000, mostCount), 15)
	checked(t, times(1000, 1), 10)
}

// P5.2: the same for the same ones, whatever was asked between.
func TestLengthsAreTheSameEachTime(t *testing.T) {
	r := rand.New(rand.NewPCG(6, 5))
	for range 100 {
		counts := randomCounts(r, 1+r.IntN(300))
		first, _ := huffman.Lengths(counts, 12)
		huffman.Lengths(randomCounts(r, 100), 7)
		second, _ := huffman.Lengths(slices.Clone(counts), 12)
		if !slices.Equal(first, second) {
			t.Fatalf("Lengths(%v): %v, then %v", counts, first, second)
		}
	}
}

// P5.2
func TestCost(t *testing.T) {
	for _, x := range []struct {
		counts, lengths []int
		want            int
	}{
		{nil, nil, 0}, {[]int{1}, nil, 0}, {nil, []int{1}, 0}, {[]int{}, []int{5}, 0},
		{[]int{5, 0, 2, 1, 1}, []int{1, 0, 2, 3, 3}, 15}, {[]int{5, 0, 2, 1, 1}, []int{2, 0, 2, 2, 2}, 18},
		// As far as both go.
		{[]int{5, 7, 9}, []int{2}, 10}, {[]int{5}, []int{2, 100, 1000}, 10}, {[]int{5, 7, 9}, []int{2, 3}, 31},
		// Below 0 is 0.
		{[]int{-5, 7}, []int{2, 3}, 21}, {[]int{5, 7}, []int{-2, 3}, 21}, {[]int{-5, 7}, []int{-2, 3}, 21}, {[]int{math.MinInt, 1}, []int{math.MinInt, 1}, 1}, {[]int{math.MinInt}, []int{math.MaxInt}, 0}, {[]int{7, -1}, []int{3, 4}, 21},
		// Numbers that may be no count and no length.
		{[]int{1 << 40}, []int{1000}, 1000 << 40}, {times(5000, 2), times(5000, 3), 30000}, {[]int{mostCount + 1}, []int{16}, 1 << 35},
		// At most 2^62.
		{[]int{1 << 31}, []int{1 << 31}, 1 << 62}, {[]int{1<<62 - 1}, []int{1}, 1<<62 - 1}, {[]int{1 << 62}, []int{1}, 1 << 62}, {[]int{1}, []int{1<<62 + 1}, 1 << 62}, {[]int{1<<62 - 1, 1}, []int{1, 1}, 1 << 62}, {[]int{1<<62 - 1, 2}, []int{1, 1}, 1 << 62}, {[]int{1<<62 - 3, 1}, []int{1, 2}, 1<<62 - 1},
		{[]int{math.MaxInt}, []int{math.MaxInt}, 1 << 62}, {[]int{math.MaxInt}, []int{1}, 1 << 62}, {[]int{math.MaxInt}, []int{2}, 1 << 62}, {[]int{math.MaxInt}, []int{0}, 0}, {[]int{0}, []int{math.MaxInt}, 0},
		{[]int{1 << 33}, []int{1 << 31}, 1 << 62}, {[]int{1 << 32}, []int{1 << 32}, 1 << 62}, {[]int{3 << 61, 1}, []int{3, 1}, 1 << 62},
		{times(10, 1<<61), times(10, 1), 1 << 62}, {[]int{math.MaxInt, 0, -5, 7}, []int{math.MaxInt, 3, 3, 0}, 1 << 62}, {[]int{1 << 62, 5}, []int{1, 0}, 1 << 62}, {[]int{5, 1 << 62}, []int{-1, 1}, 1 << 62},
	} {
		if cost := huffman.Cost(x.counts, x.lengths); cost != x.want {
			t.Errorf("Cost(%.60v.., %.60v..): %d, not %d", x.counts, x.lengths, cost, x.want)
		}
		if cost := huffman.Cost(x.lengths, x.counts); cost != x.want {
			t.Errorf("Cost(%.60v.., %.60v..): %d, not %d", x.lengths, x.counts, cost, x.want)
		}
	}
}

// costByWords is Cost by numbers of any size.
func costByWords(counts, lengths []int) int {
	cost, most := new(big.Int), big.NewInt(1<<62)
	for i := 0; i < len(counts) && i < len(lengths); i++ {
		a, b := big.NewInt(int64(max(counts[i], 0))), big.NewInt(int64(max(lengths[i], 0)))
		cost.Add(cost, a.Mul(a, b))
	}
	if cost.Cmp(most) > 0 {
		return 1 << 62
	}
	return int(cost.Int64())
}

// P5.2
func TestCostByTheChaptersWords(t *testing.T) {
	r := rand.New(rand.NewPCG(7, 5))
	randomNumbers := func(bits int) []int {
		l := make([]int, r.IntN(6))
		for i := range l {
			l[i] = int(r.Uint64()) >> (63 - r.IntN(bits))
		}
		return l
	}
	for range 100000 {
		counts, lengths := randomNumbers(1+r.IntN(64)), randomNumbers(1+r.IntN(64))
		if cost, want := huffman.Cost(counts, lengths), costByWords(counts, lengths); cost != want {
			t.Fatalf("Cost(%v, %v): %d, not %d", counts, lengths, cost, want)
		}
	}
}

func TestLengthsChangeAndKeepNothing(t *testing.T) {
	r := rand.New(rand.NewPCG(8, 5))
	for n := range 100 {
		keepsNothing(t, randomCounts(r, n), func(l []int) []int {
			huffman.Cost(l, l)
			lengths, _ := huffman.Lengths(l, 10)
			return lengths
		})
	}
}
