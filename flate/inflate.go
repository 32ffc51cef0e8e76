package flate

import (
	"slices"

	"marquetry/api"
)

// Inflate tells the bytes that the stream makes with which b begins, if they are
// at most so many, and how many bytes the stream has.
func Inflate(b []byte, most int) (made []byte, size int, e api.Errno) {
	if most < 0 || most > api.MaxBytes {
		return nil, 0, api.ErrArg
	}
	defer func() { e = reasonOf(recover()) }()
	f := inflater{bitReader: bitReader{bytes: b}, most: most}
	f.stream()
	return f.made, f.begun(), api.OK
}

// inflater makes the bytes of a stream.
type inflater struct {
	bitReader
	most       int
	made       []byte
	fixedBooks *books // once a fixed block was there
}

// stream goes over the blocks. A kind that makes its bytes itself has no books.
func (f *inflater) stream() {
	kinds := [...]func(*inflater) *books{(*inflater).stored, (*inflater).fixed, (*inflater).dynamic, (*inflater).none}
blocks:
	for last := false; !last; {
		last = f.number(1) == 1
		b := kinds[f.number(2)](f)
		for b != nil {
			symbol, size := f.find(b.symbols)
			switch {
			case symbol == endSymbol:
				continue blocks
			case symbol < endSymbol:
				f.add(byte(symbol))
			default:
				f.copy(b.distances, size)
			}
		}
	}
}

func (f *inflater) add(c byte) {
	if len(f.made) == f.most {
		panic(refusal{api.ErrLong})
	}
	f.made = append(f.made, c)
}

// copy makes so many bytes, one by one, as what it makes itself is copied too.
func (f *inflater) copy(backs book, size int) {
	_, back := f.find(backs)
	if back > len(f.made) {
		panic(refusal{api.ErrForm})
	}
	for range size {
		f.add(f.made[len(f.made)-back])
	}
}

func (f *inflater) none() *books {
	panic(refusal{api.ErrForm})
}

func (f *inflater) stored() *books {
	f.passOver()
	size, other := f.number(16), f.number(16)
	if size+other != mostStored {
		panic(refusal{api.ErrForm})
	}
	for range size {
		f.add(byte(f.number(8)))
	}
	return nil
}

func (f *inflater) fixed() *books {
	if f.fixedBooks == nil {
		ofSymbols, ofDistances := fixedLengths()
		f.fixedBooks = newBooks(ofSymbols[:], ofDistances[:])
	}
	return f.fixedBooks
}

func (f *inflater) dynamic() *books {
	ofSymbols := leastSymbols + f.number(5)
	ofDistances := leastDistances + f.number(5)
	ofLengths := leastLengths + f.number(4)
	if ofSymbols > symbols || ofDistances > distances {
		panic(refusal{api.ErrForm})
	}
	row := f.row(f.lengthBook(ofLengths), ofSymbols+ofDistances)
	mustBeLengths(row[:ofSymbols], row[ofSymbols:])
	return newBooks(row[:ofSymbols], row[ofSymbols:])
}

// lengthBook takes so many lengths for the codes of lengths.
func (f *inflater) lengthBook(size int) book {
	var lengths [lengthCodes]int
	order, times := lengthOrder(), lengthSpans()
	for _, symbol := range order[:size] {
		lengths[symbol] = f.number(3)
	}
	if !complete(lengths[:]) {
		panic(refusal{api.ErrForm})
	}
	return newBook(lengths[:], times[:])
}

// row takes so many lengths.
func (f *inflater) row(b book, size int) []int {
	var row []int
	for len(row) < size {
		length, times := f.find(b)
		if len(row)+times > size || len(row) == 0 && length == againCode {
			panic(refusal{api.ErrForm})
		}
		switch length {
		case againCode:
			length = row[len(row)-1]
		case zerosCode, manyZeros:
			length = 0
		}
		row = append(row, slices.Repeat([]int{length}, times)...)
	}
	return row
}

// mustBeLengths gives up, if these are no dynamic block's.
func mustBeLengths(ofSymbols, ofDistances []int) {
	if ofSymbols[endSymbol] == 0 || !complete(ofSymbols) && !fewer(ofSymbols) {
		panic(refusal{api.ErrForm})
	}
	if !complete(ofDistances) && !fewer(ofDistances) {
		panic(refusal{api.ErrForm})
	}
}
