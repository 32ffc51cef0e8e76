package hybrid_test

import (
	"math/big"
	"math/rand/v2"
	"slices"
	"strings"

	"marquetry/api"
	"marquetry/bits"
)

// told are the bytes of numbers, told once more: bit by bit, as a text of
// noughts and ones.
func told(width int, l []int) []byte {
	var text strings.Builder
	for i := 0; i < len(l); {
		if n := alike(l, i); n >= 8 {
			lay(&text, head(2*n), 8*len(head(2*n)))
			lay(&text, low(l[i]), (width+7)/8*8)
			i += n
			continue
		}
		groups := 1
		for i+8*groups < len(l) && alike(l, i+8*groups) < 8 {
			groups++
		}
		lay(&text, head(2*groups+1), 8*len(head(2*groups+1)))
		for range 8 * groups {
			n := 0
			if i < len(l) {
				n = l[i]
			}
			lay(&text, low(n), width)
			i++
		}
	}
	return ofText(text.String())
}

// alike is how many numbers from i on are the same.
func alike(l []int, i int) int {
	n := 0
	for i+n < len(l) && l[i+n] == l[i] {
		n++
	}
	return n
}

func head(n int) []byte { return bits.Varint(uint64(n)) }

func low(n int) []byte { return []byte{byte(n), byte(n >> 8), byte(n >> 16), byte(n >> 24)} }

func lay(text *strings.Builder, b []byte, width int) {
	for i := range width {
		text.WriteByte('0' + b[i/8]>>(i%8)&1)
	}
}

func ofText(text string) []byte {
	b := make([]byte, len(text)/8)
	for i, c := range text {
		b[i/8] |= byte(c-'0') << (i % 8)
	}
	return b
}

// answer is what may be told of bytes.
type answer struct {
	l    []int
	runs []api.Run
	size int
	e    api.Errno
}

// readOf is what is told of the bytes in front, once more: all that follows the
// head is one great number.
func readOf(b []byte, width, count int) answer {
	switch {
	case width < 0 || width > 32 || count < 0:
		return answer{e: api.ErrArg}
	case len(b) > 1<<20 || count > 1<<16:
		return answer{e: api.ErrLong}
	}
	var a answer
	for len(a.l) < count {
		h, at, e := bits.ReadVarint(b, a.size)
		if e != api.OK {
			return answer{e: e}
		}
		left := count - len(a.l)
		follows := slices.Clone(b[at:])
		slices.Reverse(follows)
		all := new(big.Int).SetBytes(follows)
		field := func(i, width int) int {
			n := new(big.Int).Rsh(all, uint(i*width))
			return int(n.And(n, new(big.Int).Sub(new(big.Int).Lsh(big.NewInt(1), uint(width)), big.NewInt(1))).Int64())
		}
		n, size := h>>1, (width+7)/8
		run := api.Run{Packed: h&1 == 1}
		if run.Packed {
			if n == 0 || n > 1<<20 || 8*int(n) > left+7 {
				return answer{e: api.ErrForm}
			}
			size = int(n) * width
			run.Count = min(left, 8*int(n))
			for i := range 8 * int(n) {
				if i < left {
					a.l = append(a.l, field(i, width))
				} else if field(i, width) != 0 {
					return answer{e: api.ErrForm}
				}
			}
		} else {
			if n == 0 || n > uint64(left) || len(follows) >= size && field(0, 8*size)>>width != 0 {
				return answer{e: api.ErrForm}
			}
			run.Count = int(n)
			a.l = append(a.l, slices.Repeat([]int{field(0, 8*size)}, int(n))...)
		}
		if len(follows) < size {
			return answer{e: api.ErrShort}
		}
		a.runs = append(a.runs, run)
		a.size = at + size
	}
	return a
}

// randomList are numbers of a width, some of them alike one behind the other.
func randomList(r *rand.Rand, width, most int) []int {
	var l []int
	for len(l) < most && r.IntN(12) > 0 {
		n := int(r.Uint64() >> (64 - width))
		if width == 0 || r.IntN(3) == 0 {
			n = 0
		}
		times := 1
		if r.IntN(3) == 0 {
			times = r.IntN(20)
		}
		l = append(l, slices.Repeat([]int{n}, times)...)
	}
	return l[:min(len(l), most)]
}

// randomHybrid are runs that no writer may have laid so, most of which may be,
// and how many numbers they have.
func randomHybrid(r *rand.Rand, width int) ([]byte, int) {
	var b []byte
	count := 0
	for r.IntN(5) > 0 {
		n := 1 + r.IntN(4)
		if r.IntN(40) == 0 {
			n = 0
		}
		size := (width + 7) / 8
		if r.IntN(2) == 0 {
			b = append(b, byte(2*n+1))
			count += 8 * n
			size = n * width
		} else {
			b = append(b, byte(2*n))
			count += n
		}
		for range size {
			b = append(b, byte(r.IntN(256)))
		}
		// So that a repeated number fits, or not.
		if size > 0 && r.IntN(3) > 0 {
			b[len(b)-1] &= byte(1<<((width+7)%8+1) - 1)
		}
	}
	return b, count
}
