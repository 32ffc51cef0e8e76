package huffman

import (
	"cmp"
	"slices"

	"marquetry/api"
)

// mostCount is the greatest count of a symbol, mostCost the greatest sum that is told.
const (
	mostCount = 1<<31 - 1
	mostCost  = 1 << 62
)

// Lengths tells least lengths for counts within a limit.
func Lengths(counts []int, limit int) ([]int, api.Errno) {
	if limit < 1 || limit > api.MaxCode {
		return nil, api.ErrArg
	}
	if e := refusal(counts, mostCount); e != api.OK {
		return nil, e
	}
	symbols := inOrder(counts)
	if len(symbols) > 1<<limit {
		return nil, api.ErrFull
	}
	lengths := make([]int, len(counts))
	if len(symbols) < 2 {
		lengthen(lengths, symbols)
		return lengths, api.OK
	}
	taken := 2*len(symbols) - 2
	for _, packs := range slices.Backward(packSteps(counts, symbols, limit)) {
		pairs := pairsAmong(packs[:taken])
		lengthen(lengths, symbols[:taken-pairs])
		taken = 2 * pairs
	}
	return lengths, api.OK
}

// inOrder is the symbols with counts, the least ahead. Of one count those with
// greater numbers stand ahead, so that lesser ones have no greater lengths.
func inOrder(counts []int) []int {
	var symbols []int
	for symbol, count := range counts {
		if count > 0 {
			symbols = append(symbols, symbol)
		}
	}
	slices.SortFunc(symbols, func(a, b int) int {
		return cmp.Or(cmp.Compare(counts[a], counts[b]), cmp.Compare(b, a))
	})
	return symbols
}

func lengthen(lengths, symbols []int) {
	for _, symbol := range symbols {
		lengths[symbol]++
	}
}

// pack is a package: a symbol, or a pair of packs of the step ahead, whose
// symbols all have a bit more if it is taken. Which ones follows from its place:
// of a step's symbols, and of its pairs, those in front are taken.
type pack struct {
	weight int
	pair   bool
}

// packSteps is, for each bit of a code, the last one ahead, what can be taken.
// Of the last step's packs as many as make complete lengths are taken: they are
// the lightest, and no other choice costs less (the package-merge algorithm).
func packSteps(counts, symbols []int, limit int) [][]pack {
	singles := make([]pack, len(symbols))
	for i, symbol := range symbols {
		singles[i] = pack{weight: counts[symbol]}
	}
	// A pair that weighs as much as a symbol stands behind it: lengths differ less so.
	lighter := func(a, b pack) bool { return a.weight < b.weight }
	steps := make([][]pack, limit)
	for i := range steps {
		steps[i] = singles
		if i > 0 {
			steps[i] = merge(singles, pairsOf(steps[i-1]), lighter)
		}
	}
	return steps
}

// pairsOf is packs by twos; an odd one at the end is left.
func pairsOf(packs []pack) []pack {
	pairs := make([]pack, len(packs)/2)
	for i := range pairs {
		pairs[i] = pack{weight: packs[2*i].weight + packs[2*i+1].weight, pair: true}
	}
	return pairs
}

func pairsAmong(packs []pack) int {
	n := 0
	for _, p := range packs {
		if p.pair {
			n++
		}
	}
	return n
}

// merge puts two lists that are in order into one. Of what is alike the first
// list's stands ahead.
func merge[T any](first, second []T, ahead func(a, b T) bool) []T {
	both := make([]T, 0, len(first)+len(second))
	for len(first) > 0 && len(second) > 0 {
		if ahead(second[0], first[0]) {
			both, second = append(both, second[0]), second[1:]
		} else {
			both, first = append(both, first[0]), first[1:]
		}
	}
	return append(append(both, first...), second...)
}

// Cost tells the sum of count times length.
func Cost(counts, lengths []int) int {
	cost := 0
	for i := range min(len(counts), len(lengths)) {
		count, length := max(counts[i], 0), max(lengths[i], 0)
		if length > 0 && count > (mostCost-cost)/length {
			return mostCost
		}
		cost += count * length
	}
	return cost
}
