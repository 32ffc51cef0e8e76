package bits

import (
	"slices"

	"marquetry/api"
)

// packed is a list of numbers, bit by bit, that grows at its end.
type packed struct {
	bytes []byte
	free  int // bits of the last byte that nothing stands in
}

// put lays a number, which must be below 2^width, behind the others.
func (p *packed) put(n uint64, width int) {
	for width > 0 {
		if p.free == 0 {
			p.grow()
		}
		taken := min(width, p.free)
		p.bytes[len(p.bytes)-1] |= byte(n << (8 - p.free))
		n >>= taken
		width -= taken
		p.free -= taken
	}
}

func (p *packed) grow() {
	p.bytes = append(p.bytes, 0)
	p.free = 8
}

// Pack packs numbers of a width.
func Pack(width int, l ...uint64) ([]byte, api.Errno) {
	tooWide := func(n uint64) bool { return Width(n) > width }
	if !isWidth(width) || slices.ContainsFunc(l, tooWide) {
		return nil, api.ErrArg
	}
	size, e := Size(width, len(l))
	if e != api.OK {
		return nil, e
	}
	p := packed{bytes: make([]byte, 0, size)}
	for _, n := range l {
		p.put(n, width)
	}
	return p.bytes, api.OK
}

// Unpack tells so many numbers of a width, of which the bytes are.
func Unpack(b []byte, width, count int) ([]uint64, api.Errno) {
	size, e := Size(width, count)
	switch {
	case e != api.OK:
		return nil, e
	case len(b) > api.MaxBytes:
		return nil, api.ErrLong
	case len(b) < size:
		return nil, api.ErrShort
	case len(b) > size:
		return nil, api.ErrExtra
	}
	out := make([]uint64, count)
	at, shift := 0, 0
	for bit := range bitsOf(b) {
		if at == count {
			if bit != 0 {
				return nil, api.ErrForm
			}
			continue
		}
		out[at] |= uint64(bit) << shift
		shift++
		if shift == width {
			at, shift = at+1, 0
		}
	}
	return out, api.OK
}

// Size tells how many bytes so many packed numbers have.
func Size(width, count int) (int, api.Errno) {
	if !isWidth(width) || count < 0 {
		return 0, api.ErrArg
	}
	// Asked first, so that the product below stays small.
	if count > api.MaxBytes {
		return 0, api.ErrLong
	}
	size := (count*width + 7) / 8
	if size > api.MaxBytes {
		return 0, api.ErrLong
	}
	return size, api.OK
}

func isWidth(width int) bool { return width >= 0 && width <= mostWidth }
