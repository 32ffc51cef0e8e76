package flate

import (
	"marquetry/api"
	"marquetry/huffman"
)

// code is a code's bits as a number, and how many they are.
type code struct {
	bits, length uint16
}

// meaning is what a code stands for.
type meaning struct {
	symbol int
	span   span
}

// book is where codes are found.
type book struct {
	meanings map[code]meaning
	longest  uint16
}

// newBook is the codes of lengths that are not over-full.
func newBook(lengths []int, spans []span) book {
	b := book{meanings: map[code]meaning{}}
	codes, _ := huffman.Codes(lengths)
	for symbol, length := range lengths {
		if length > 0 {
			c := code{uint16(codes[symbol]), uint16(length)}
			b.meanings[c] = meaning{symbol, spans[symbol]}
			b.longest = max(b.longest, c.length)
		}
	}
	return b
}

// books are where a block's codes are found.
type books struct {
	symbols, distances book
}

func newBooks(ofSymbols, ofDistances []int) *books {
	sizes, backs := symbolSpans(), distanceSpans()
	return &books{newBook(ofSymbols, sizes[:]), newBook(ofDistances, backs[:])}
}

// find takes bits until they are a code, and the number that it and the bits
// behind it tell. Lengths are complete, or one code has a single bit, or there
// are none: so it is with the longest code at the latest that no code begins so.
func (r *bitReader) find(b book) (symbol, number int) {
	c := code{}
	for c.length < b.longest {
		c = code{c.bits<<1 | uint16(r.bit()), c.length + 1}
		m, there := b.meanings[c]
		if !there {
			continue
		}
		if m.span.first == 0 {
			break
		}
		return m.symbol, m.span.first + r.number(m.span.bits)
	}
	panic(refusal{api.ErrForm})
}

func complete(lengths []int) bool {
	weight, e := huffman.Weigh(lengths)
	return e == api.OK && weight == 1<<api.MaxCode
}

// fewer: is there one code alone, of length 1, or none?
func fewer(lengths []int) bool {
	sum := 0
	for _, length := range lengths {
		sum += length
	}
	return sum < 2
}
