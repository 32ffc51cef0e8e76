package snappy

import "marquetry/api"

// alikeBytes is how many bytes are looked up at once: fewer are not worth a copy.
const alikeBytes = 4

// mostCopied is how many bytes a part copies at most.
const mostCopied = 64

// middleBack is from how far back less than a middle part copies; farBytes is how
// many bytes a part has that copies from farther back.
const (
	middleBack = 1 << 16
	farBytes   = 5
)

// Squeeze tells a block that makes b.
func Squeeze(b []byte) ([]byte, api.Errno) {
	if len(b) > api.MaxBytes {
		return nil, api.ErrLong
	}
	var block []byte
	lay := func(l ...byte) { block = append(block, l...) }
	layNumber(lay, len(b))
	copyAt, laid := copiesOf(b), 0
	for at := 0; at+alikeBytes <= len(b); {
		size, back := copyAt(at)
		if !pays(size, back) {
			at++
			continue
		}
		layBytes(lay, b[laid:at])
		layCopies(lay, size, back)
		at += size
		laid = at
	}
	layBytes(lay, b[laid:])
	return block, api.OK
}

// copiesOf is how it is found how many bytes of b, from a place on, can be
// copied, and from how far back: from where the same four bytes began last.
// Places are asked for one behind the other.
func copiesOf(b []byte) func(at int) (size, back int) {
	places, known := map[[alikeBytes]byte]int{}, 0
	return func(at int) (int, int) {
		for ; known < at; known++ {
			places[[alikeBytes]byte(b[known:])] = known
		}
		from, there := places[[alikeBytes]byte(b[at:])]
		if !there {
			return 0, 0
		}
		return alike(b[from:], b[at:]), at - from
	}
}

// alike is how many bytes are the same in front of both; ahead is not shorter.
func alike(ahead, b []byte) int {
	for i, c := range b {
		if ahead[i] != c {
			return i
		}
	}
	return len(b)
}

// pays: has a copy's part fewer bytes than it makes? So no more than 1 byte is
// lost for each 65 that are squeezed, whatever they are.
func pays(size, back int) bool {
	return back < middleBack && size >= alikeBytes || size > farBytes
}

func layNumber(lay func(...byte), n int) {
	for ; n >= more; n /= more {
		lay(byte(n%more + more))
	}
	lay(byte(n))
}

func layBytes(lay func(...byte), b []byte) {
	if len(b) == 0 {
		return
	}
	n := len(b) - 1
	switch {
	case n < longBytes:
		lay(byte(n*kinds + bytesPart))
	case n < 1<<8:
		lay(longBytes*kinds+bytesPart, byte(n))
	case n < 1<<16:
		lay((longBytes+1)*kinds+bytesPart, byte(n), byte(n>>8))
	default:
		lay((longBytes+2)*kinds+bytesPart, byte(n), byte(n>>8), byte(n>>16))
	}
	lay(b...)
}

func layCopies(lay func(...byte), size, back int) {
	for size > 0 {
		first := firstOf(size)
		lay(copyPart(first, back)...)
		size -= first
	}
}

// firstOf is how many of so many bytes are copied first: what is left is again
// worth a copy.
func firstOf(size int) int {
	if size > mostCopied && size < mostCopied+alikeBytes {
		return mostCopied - alikeBytes
	}
	return min(size, mostCopied)
}

// copyPart is the shortest part that copies so many bytes from so far back.
func copyPart(size, back int) []byte {
	switch {
	case size < nearLeast+nearSizes && back < nearBack:
		n := back/nearStep*nearSizes + size - nearLeast
		return []byte{byte(n*kinds + nearPart), byte(back)}
	case back < middleBack:
		return []byte{byte((size-1)*kinds + middlePart), byte(back), byte(back >> 8)}
	}
	return []byte{byte((size-1)*kinds + farPart), byte(back), byte(back >> 8), byte(back >> 16), byte(back >> 24)}
}
