package flate

import (
	"math/bits"
	"sort"

	"marquetry/huffman"
)

// What a sign is of.
const (
	ofSymbols = iota
	ofDistances
	ofLengths
	kindsOfSigns
)

// mostLengthCode is how many bits the code of a length has at most.
const mostLengthCode = 7

// sign is a symbol, and a number of so many bits behind its code.
type sign struct {
	of, symbol   int
	number, bits int
}

// told is the sign that stands for a number. Of a number that two stand for it is
// the later one, which has fewer bits.
func told(of int, spans []span, number int) sign {
	symbol := sort.Search(len(spans), func(i int) bool { return spans[i].first > number }) - 1
	return sign{of, symbol, number - spans[symbol].first, spans[symbol].bits}
}

// signsOf is signs that make a piece of b, and the block's end.
func signsOf(b []byte, from, until int, copyAt func(at, until int) (size, back int)) []sign {
	var signs []sign
	sizes, backs := symbolSpans(), distanceSpans()
	for at := from; at < until; {
		size, back := copyAt(at, until)
		if !pays(size, back) {
			signs = append(signs, sign{of: ofSymbols, symbol: int(b[at])})
			at++
			continue
		}
		signs = append(signs, told(ofSymbols, sizes[:symbols], size), told(ofDistances, backs[:distances], back))
		at += size
	}
	return append(signs, sign{of: ofSymbols, symbol: endSymbol})
}

// rowSigns is signs that tell lengths as a row.
func rowSigns(row []int) []sign {
	var signs []sign
	spans := lengthSpans()
	for at := 0; at < len(row); {
		code := rowCode(row, at)
		times := min(alikeAt(row, at), spans[code].first+1<<spans[code].bits-1)
		signs = append(signs, sign{ofLengths, code, times - spans[code].first, spans[code].bits})
		at += times
	}
	return signs
}

// rowCode is the code that tells most of the lengths from a place on.
func rowCode(row []int, at int) int {
	times := alikeAt(row, at)
	switch {
	case row[at] == 0 && times >= leastMany:
		return manyZeros
	case row[at] == 0 && times >= leastAgain:
		return zerosCode
	case at > 0 && row[at] == row[at-1] && times >= leastAgain:
		return againCode
	}
	return row[at]
}

// alikeAt is how many lengths from a place on are the same.
func alikeAt(row []int, at int) int {
	times := 1
	for at+times < len(row) && row[at+times] == row[at] {
		times++
	}
	return times
}

// alphabet is the lengths of symbols and their codes, turned so that the highest
// bit is laid first.
type alphabet struct {
	lengths, codes []int
}

func newAlphabet(lengths []int) alphabet {
	codes, _ := huffman.Codes(lengths)
	for symbol, length := range lengths {
		codes[symbol] = int(bits.Reverse16(uint16(codes[symbol])) >> (16 - length))
	}
	return alphabet{lengths, codes}
}

// leastAlphabet is that in which the signs of a kind have the fewest bits.
func leastAlphabet(signs []sign, of, size, limit int) alphabet {
	counts := make([]int, size)
	for _, s := range signs {
		if s.of == of {
			counts[s.symbol]++
		}
	}
	lengths, _ := huffman.Lengths(counts, limit)
	return newAlphabet(lengths)
}

// alphabets are a block's, by what they are of.
type alphabets [kindsOfSigns]alphabet

func (a alphabets) lay(lay layer, signs []sign) {
	for _, s := range signs {
		lay(a[s.of].codes[s.symbol], a[s.of].lengths[s.symbol])
		lay(s.number, s.bits)
	}
}
