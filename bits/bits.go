// Package bits is layer 1: see shared/doc/01-bits.md.
package bits

import (
	"iter"
	mathbits "math/bits"
	"slices"

	"marquetry/api"
)

const (
	mostLittle = 8   // bytes of a little number
	mostWidth  = 64  // bits of a packed number
	more       = 128 // the bit of a varint's bytes but the last one
)

// Little tells a number as bytes, the lowest first.
func Little(n uint64, bytes int) ([]byte, api.Errno) {
	if !isLittle(bytes) || Width(n) > 8*bytes {
		return nil, api.ErrArg
	}
	out := make([]byte, bytes)
	for i := range out {
		out[i] = byte(n)
		n >>= 8
	}
	return out, api.OK
}

// ReadLittle tells the number that stands in so many bytes from a place on.
func ReadLittle(b []byte, at, bytes int) (uint64, api.Errno) {
	if !isLittle(bytes) || !isPlace(b, at) {
		return 0, api.ErrArg
	}
	take := taker(b, at)
	n := uint64(0)
	for i := range bytes {
		c, there := take()
		if !there {
			return 0, api.ErrShort
		}
		n |= uint64(c) << (8 * i)
	}
	return n, api.OK
}

// Varint tells a number as few bytes.
func Varint(n uint64) []byte {
	var out []byte
	for n >= more {
		out = append(out, byte(n)|more)
		n >>= 7
	}
	return append(out, byte(n))
}

// ReadVarint tells the number of a varint, and the place behind it.
func ReadVarint(b []byte, at int) (uint64, int, api.Errno) {
	if !isPlace(b, at) {
		return 0, 0, api.ErrArg
	}
	take := taker(b, at)
	n, over := uint64(0), false
parts:
	for i := 0; ; i++ {
		c, there := take()
		if !there {
			return 0, 0, api.ErrShort
		}
		// Nine bytes leave room for one bit. What is over is still read to its
		// end, as bytes that end too early are told ahead of it.
		over = over || i == 9 && c > 1
		n |= uint64(c&^more) << (7 * i)
		switch {
		case c >= more:
			continue parts
		case over:
			return 0, 0, api.ErrOver
		case c == 0 && i > 0:
			return 0, 0, api.ErrForm
		}
		return n, at + i + 1, api.OK
	}
}

// Zigzag tells a number without its sign.
func Zigzag(n int64) uint64 { return uint64(n<<1) ^ uint64(n>>63) }

// Unzigzag tells it back.
func Unzigzag(n uint64) int64 { return int64(n>>1) ^ -int64(n&1) }

// Width tells how many bits a number needs.
func Width(n uint64) int { return mathbits.Len64(n) }

func isLittle(bytes int) bool { return bytes >= 0 && bytes <= mostLittle }

// The place behind the last byte is one too: reading may have come so far.
func isPlace(b []byte, at int) bool { return at >= 0 && at <= len(b) }

// taker hands out byte after byte from a place on, as long as there are any.
func taker(b []byte, at int) func() (byte, bool) {
	return func() (byte, bool) {
		if at >= len(b) {
			return 0, false
		}
		c := b[at]
		at++
		return c, true
	}
}

// Bits goes over the bits of the bytes as they are now: a later change of b
// must not be seen by whoever goes over them again.
func Bits(b []byte) iter.Seq[int] { return bitsOf(slices.Clone(b)) }

func bitsOf(b []byte) iter.Seq[int] {
	return func(yield func(int) bool) {
		for _, c := range b {
			for i := range 8 {
				if !yield(int(c >> i & 1)) {
					return
				}
			}
		}
	}
}
