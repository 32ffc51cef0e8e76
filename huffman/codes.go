package huffman

import (
	"iter"

	"marquetry/api"
)

// Codes tells each symbol's code: 0 of one without.
func Codes(lengths []int) ([]int, api.Errno) {
	if e := codesRefusal(lengths); e != api.OK {
		return nil, e
	}
	codes := make([]int, len(lengths))
	for symbol, code := range codesOf(lengths) {
		codes[symbol] = code
	}
	return codes, api.OK
}

// Find tells the symbol whose code is that, of that length, if there is one.
func Find(lengths []int, code, length int) (int, bool) {
	if codesRefusal(lengths) != api.OK {
		return 0, false
	}
	for symbol, c := range codesOf(lengths) {
		if c == code && lengths[symbol] == length {
			return symbol, true
		}
	}
	return 0, false
}

// codesRefusal is why lengths have no codes.
func codesRefusal(lengths []int) api.Errno {
	if e := refusal(lengths, api.MaxCode); e != api.OK {
		return e
	}
	if weight(lengths) > full {
		return api.ErrFull
	}
	return api.OK
}

// codesOf goes over the symbols that have codes, by their numbers, with the codes.
func codesOf(lengths []int) iter.Seq2[int, int] {
	return func(yield func(symbol, code int) bool) {
		next := firstCodes(lengths)
		for symbol, length := range lengths {
			if length == 0 {
				continue
			}
			if !yield(symbol, next[length]) {
				return
			}
			next[length]++
		}
	}
}

// firstCodes is the code of the first symbol of each length: as if the lengths
// between were there too, with no symbols.
func firstCodes(lengths []int) [api.MaxCode + 1]int {
	var first [api.MaxCode + 1]int
	code := 0
	for length, symbols := range perLength(lengths) {
		code <<= 1
		first[length] = code
		code += symbols
	}
	return first
}
