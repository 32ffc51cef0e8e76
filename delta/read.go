package delta

import (
	"bytes"

	"marquetry/api"
)

// refusal is what is panicked with where reading is given up.
type refusal struct {
	why api.Errno
}

// reasonOf is why reading was given up, by what was recovered.
func reasonOf(recovered any) api.Errno {
	switch r := recovered.(type) {
	case nil:
		return api.OK
	case refusal:
		return r.why
	}
	panic(recovered)
}

// must gives up, if the bytes are not of the form that holds.
func must(holds bool) {
	if !holds {
		panic(refusal{api.ErrForm})
	}
}

// Begin tells the list whose bytes b begins with, and how many these are.
func Begin(b []byte) (l []int64, size int, e api.Errno) {
	defer func() { e = reasonOf(recover()) }()
	r := reader{left: b}
	list := listOf(r.next)
	taken := b[:len(b)-len(r.left)]
	again, _ := Write(list...)
	must(bytes.Equal(again, taken))
	return list, len(taken), api.OK
}

// Read tells the list whose bytes b is, if it has so many numbers.
func Read(b []byte, count int) ([]int64, api.Errno) {
	if count < 0 || count > api.MaxCount {
		return nil, api.ErrArg
	}
	l, size, e := Begin(b)
	switch {
	case e != api.OK:
		return nil, e
	case len(l) != count:
		return nil, api.ErrForm
	case size < len(b):
		return nil, api.ErrExtra
	}
	return l, api.OK
}

// reader takes byte after byte off what is left.
type reader struct {
	left []byte
}

func (r *reader) next() byte {
	if len(r.left) == 0 {
		panic(refusal{api.ErrShort})
	}
	c := r.left[0]
	r.left = r.left[1:]
	return c
}

// listOf takes a list. It grows with what is there, not with what is said to be.
func listOf(next func() byte) []int64 {
	must(numberOf(next) == blockSize)
	must(numberOf(next) == partCount)
	count := numberOf(next)
	must(count <= api.MaxCount)
	n := signedOf(next)
	if count == 0 {
		must(n == 0)
		return nil
	}
	l := []int64{n}
	for size := range blocks(int(count)) {
		for _, d := range blockOf(next, size) {
			n += d
			l = append(l, n)
		}
	}
	return l
}

// blockOf takes a block of so many differences. Of a part that is not there
// nothing is taken, as its width is 0.
func blockOf(next func() byte, size int) []int64 {
	least := signedOf(next)
	var block []int64
	for _, width := range widthsOf(next, partsOf(size)) {
		for _, above := range partOf(next, width) {
			block = append(block, least+above)
		}
	}
	return block[:size]
}

// widthsOf takes the widths of a block that has so many parts.
func widthsOf(next func() byte, parts int) [partCount]int {
	var widths [partCount]int
	for i := range widths {
		width := int(next())
		must(width == 0 || width <= mostWidth && i < parts)
		widths[i] = width
	}
	return widths
}

// partOf takes a part's numbers, packed in a width. What stands for those that
// are not there is taken too.
func partOf(next func() byte, width int) [partSize]int64 {
	var part [partSize]int64
	c := byte(0)
	for at := range partSize * width {
		if at%8 == 0 {
			c = next()
		}
		part[at/width] |= int64(c>>(at%8)&1) << (at % width)
	}
	return part
}

// numberOf takes a number from 0 on. It gives up with the first byte behind
// which no number's bytes can follow.
func numberOf(next func() byte) uint64 {
	n := uint64(0)
	for shift := 0; ; shift += 7 {
		c := next()
		// Nine bytes leave room for one bit.
		must(shift < 63 || c <= 1)
		must(c != 0 || shift == 0)
		n |= uint64(c&^more) << shift
		if c < more {
			return n
		}
	}
}

// signedOf takes a number with its sign.
func signedOf(next func() byte) int64 {
	n := numberOf(next)
	return int64(n>>1) ^ -int64(n&1)
}
