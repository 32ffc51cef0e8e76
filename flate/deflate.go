package flate

import (
	"cmp"
	"slices"

	"marquetry/api"
)

// headBits is how many bits say if a block is the last one, and of which kind.
const headBits = 3

// Deflate tells a stream that makes b. Each of its blocks makes as many bytes as
// a stored one can, and is of the kind that needs the fewest bits there: so no
// stream is longer than one of stored blocks alone.
func Deflate(b []byte) ([]byte, api.Errno) {
	if len(b) > api.MaxBytes {
		return nil, api.ErrLong
	}
	var stream []byte
	lay, laid := bitsOnto(&stream), 0
	copyAt := copiesOf(b)
	for from, last := 0, 0; last == 0; from += mostStored {
		until := min(from+mostStored, len(b))
		if until == len(b) {
			last = 1
		}
		best := bestBlock(b[from:until], signsOf(b, from, until, copyAt), laid)
		lay(last+best.kind<<1, headBits)
		best.lay(lay)
		laid += headBits + best.bits
	}
	lay(0, upToByte(laid))
	return stream, api.OK
}

// layer lays a number of so many bits behind what was laid.
type layer func(number, bits int)

// bitsOnto is how numbers are laid behind a stream, the lowest bits ahead. What
// is no whole byte is held back.
func bitsOnto(stream *[]byte) layer {
	held, size := 0, 0
	return func(number, bits int) {
		held |= number << size
		for size += bits; size >= 8; size -= 8 {
			*stream = append(*stream, byte(held))
			held >>= 8
		}
	}
}

// upToByte is how many bits are left of the byte in which so many bits end.
func upToByte(laid int) int {
	return -laid & 7
}

// block is what stands behind a block's head: how many bits, and how they are laid.
type block struct {
	kind, bits int
	lay        func(layer)
}

// newBlock lays a block once to see how many bits it has.
func newBlock(kind int, lay func(layer)) block {
	b := block{kind: kind, lay: lay}
	lay(func(_, bits int) { b.bits += bits })
	return b
}

// bestBlock is the shortest one that makes a piece of the bytes, which the signs
// make too, behind so many bits.
func bestBlock(piece []byte, signs []sign, laid int) block {
	blocks := []block{storedBlock(piece, upToByte(laid+headBits)), fixedBlock(signs), dynamicBlock(signs)}
	return slices.MinFunc(blocks, func(a, b block) int { return cmp.Compare(a.bits, b.bits) })
}

func storedBlock(piece []byte, passed int) block {
	return newBlock(storedKind, func(lay layer) {
		lay(0, passed)
		lay(len(piece), 16)
		lay(mostStored-len(piece), 16)
		for _, c := range piece {
			lay(int(c), 8)
		}
	})
}

func fixedBlock(signs []sign) block {
	lengths, backs := fixedLengths()
	a := alphabets{ofSymbols: newAlphabet(lengths[:]), ofDistances: newAlphabet(backs[:])}
	return newBlock(fixedKind, func(lay layer) { a.lay(lay, signs) })
}

func dynamicBlock(signs []sign) block {
	a := alphabets{
		ofSymbols:   leastAlphabet(signs, ofSymbols, symbols, api.MaxCode),
		ofDistances: leastAlphabet(signs, ofDistances, distances, api.MaxCode),
	}
	lengths := withoutZeros(a[ofSymbols].lengths, leastSymbols)
	backs := withoutZeros(a[ofDistances].lengths, leastDistances)
	row := rowSigns(slices.Concat(lengths, backs))
	a[ofLengths] = leastAlphabet(row, ofLengths, lengthCodes, mostLengthCode)
	first := withoutZeros(inLengthOrder(a[ofLengths].lengths), leastLengths)
	return newBlock(dynamicKind, func(lay layer) {
		lay(len(lengths)-leastSymbols, 5)
		lay(len(backs)-leastDistances, 5)
		lay(len(first)-leastLengths, 4)
		for _, length := range first {
			lay(length, 3)
		}
		a.lay(lay, row)
		a.lay(lay, signs)
	})
}

// withoutZeros is lengths without the noughts at their end, but at least so many.
func withoutZeros(lengths []int, least int) []int {
	size := len(lengths)
	for size > least && lengths[size-1] == 0 {
		size--
	}
	return lengths[:size]
}

func inLengthOrder(lengths []int) []int {
	ordered := make([]int, 0, lengthCodes)
	for _, symbol := range lengthOrder() {
		ordered = append(ordered, lengths[symbol])
	}
	return ordered
}
