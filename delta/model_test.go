package delta_test

import (
	"math/big"
	"math/rand/v2"
	"slices"

	"marquetry/api"
)

func whole(n int64) *big.Int { return big.NewInt(n) }

// power is 2^n.
func power(n int) *big.Int { return new(big.Int).Lsh(whole(1), uint(n)) }

func below(n, bound *big.Int) bool { return n.Cmp(bound) < 0 }

// around is n, less or more 2^64, from -2^63 to 2^63 - 1.
func around(n *big.Int) *big.Int {
	half := power(63)
	moved := new(big.Int).Add(n, half)
	moved.Mod(moved, power(64))
	return moved.Sub(moved, half)
}

// laid are the bytes of a number from 0 on.
func laid(n *big.Int) []byte {
	var b []byte
	for left := new(big.Int).Set(n); ; {
		digit := new(big.Int)
		left.DivMod(left, whole(128), digit)
		if left.Sign() == 0 {
			return append(b, byte(digit.Int64()))
		}
		b = append(b, byte(digit.Int64()+128))
	}
}

func number(n int) []byte { return laid(whole(int64(n))) }

// signed are the bytes of a number with its sign.
func signed(n *big.Int) []byte {
	twice := new(big.Int).Mul(n, whole(2))
	if n.Sign() < 0 {
		twice.Neg(twice)
		twice.Sub(twice, whole(1))
	}
	return laid(twice)
}

// packed are numbers from 0 on, below 2^width, as one great number.
func packed(width int, l []*big.Int) []byte {
	all := new(big.Int)
	for i, n := range l {
		all.Add(all, new(big.Int).Mul(n, power(i*width)))
	}
	b := make([]byte, (len(l)*width+7)/8)
	all.FillBytes(b)
	slices.Reverse(b)
	return b
}

// loose is how a block is laid that no writer lays so: its least less by so much,
// widths greater by so many bits, and another number for what is not there.
type loose struct {
	lower *big.Int
	wider int
	fill  *big.Int
}

// told are the bytes of a list, told once more.
func told(l []int64) []byte {
	return toldBy(l, func() loose { return loose{whole(0), 0, whole(0)} })
}

// toldBy are the bytes of a list, each block laid in a way of its own.
func toldBy(l []int64, way func() loose) []byte {
	first := int64(0)
	var differences []*big.Int
	for i, n := range l {
		if i == 0 {
			first = n
			continue
		}
		differences = append(differences, around(new(big.Int).Sub(whole(n), whole(l[i-1]))))
	}
	b := join(headOf(len(l)), signed(whole(first)))
	for len(differences) > 0 {
		size := min(128, len(differences))
		b = append(b, toldBlock(differences[:size], way())...)
		differences = differences[size:]
	}
	return b
}

// headOf is what stands ahead of the first number.
func headOf(count int) []byte { return join(number(128), number(4), number(count)) }

func toldBlock(block []*big.Int, way loose) []byte {
	least := new(big.Int).Sub(slices.MinFunc(block, (*big.Int).Cmp), way.lower)
	widths := make([]byte, 4)
	var parts []byte
	for i := 0; 32*i < len(block); i++ {
		l := make([]*big.Int, 32)
		width := 0
		for j := range l {
			l[j] = way.fill
			if at := 32*i + j; at < len(block) {
				l[j] = new(big.Int).Sub(block[at], least)
				width = max(width, l[j].BitLen())
			}
		}
		width = min(width+way.wider, 64)
		for j := range l {
			l[j] = new(big.Int).Mod(l[j], power(width))
		}
		widths[i] = byte(width)
		parts = append(parts, packed(width, l)...)
	}
	return join(signed(least), widths, parts)
}

// answer is what may be told of bytes.
type answer struct {
	l    []int64
	size int
	e    api.Errno
}

// cursor goes through bytes as long as nothing is wrong.
type cursor struct {
	b  []byte
	at int
	e  api.Errno
}

func (c *cursor) wrong(is bool, e api.Errno) bool {
	if c.e == api.OK && is {
		c.e = e
	}
	return c.e != api.OK
}

func (c *cursor) number() *big.Int {
	n := new(big.Int)
	for i := 0; ; i++ {
		if c.wrong(c.at == len(c.b), api.ErrShort) {
			return whole(0)
		}
		digit := int64(c.b[c.at])
		c.at++
		last := digit < 128
		n.Add(n, new(big.Int).Mul(whole(digit%128), power(7*i)))
		if c.wrong(i == 9 && !(last && below(n, power(64))), api.ErrForm) || c.wrong(last && i > 0 && digit == 0, api.ErrForm) {
			return whole(0)
		}
		if last {
			return n
		}
	}
}

func (c *cursor) signed() *big.Int {
	n, odd := new(big.Int), new(big.Int)
	n.DivMod(c.number(), whole(2), odd)
	if odd.Sign() != 0 {
		n.Neg(n.Add(n, whole(1)))
	}
	return n
}

// block goes through so many differences.
func (c *cursor) block(size int) []*big.Int {
	least := c.signed()
	var widths []int
	for i := range 4 {
		if c.wrong(c.at == len(c.b), api.ErrShort) {
			return nil
		}
		width := int(c.b[c.at])
		if c.wrong(width > 64 || 32*i >= size && width > 0, api.ErrForm) {
			return nil
		}
		widths = append(widths, width)
		c.at++
	}
	var l []*big.Int
	for i := 0; 32*i < size; i++ {
		end := c.at + 4*widths[i]
		if c.wrong(end > len(c.b), api.ErrShort) {
			return nil
		}
		bytes := slices.Clone(c.b[c.at:end])
		slices.Reverse(bytes)
		all := new(big.Int).SetBytes(bytes)
		for range min(32, size-32*i) {
			above := new(big.Int)
			all.DivMod(all, power(widths[i]), above)
			l = append(l, above.Add(above, least))
		}
		c.at = end
	}
	return l
}

func (c *cursor) list() []int64 {
	if c.wrong(c.number().Cmp(whole(128)) != 0, api.ErrForm) || c.wrong(c.number().Cmp(whole(4)) != 0, api.ErrForm) {
		return nil
	}
	count := c.number()
	if c.wrong(below(whole(1<<16), count), api.ErrForm) {
		return nil
	}
	n := c.signed()
	if count.Sign() == 0 {
		c.wrong(n.Sign() != 0, api.ErrForm)
		return nil
	}
	l := []int64{n.Int64()}
	for left := int(count.Int64()) - 1; left > 0 && c.e == api.OK; left -= 128 {
		for _, d := range c.block(min(left, 128)) {
			n = around(new(big.Int).Add(n, d))
			l = append(l, n.Int64())
		}
	}
	return l
}

// beginOf is what is told of the bytes in front, once more.
func beginOf(b []byte) answer {
	c := cursor{b: b}
	l := c.list()
	if c.wrong(c.e == api.OK && !slices.Equal(told(l), b[:c.at]), api.ErrForm) {
		return answer{e: c.e}
	}
	return answer{l, c.at, api.OK}
}

// readOf is what is told of so many bytes, by what is told of those in front.
func readOf(a answer, bytes, count int) answer {
	switch {
	case count < 0 || count > 1<<16:
		return answer{e: api.ErrArg}
	case a.e != api.OK:
		return a
	case len(a.l) != count:
		return answer{e: api.ErrForm}
	case a.size < bytes:
		return answer{e: api.ErrExtra}
	}
	return a
}

// randomList are up to so many numbers, whose differences have some bits or
// others, part by part.
func randomList(r *rand.Rand, most int) []int64 {
	var l []int64
	n, step := int64(r.Uint64()), int64(r.Uint64())>>r.IntN(64)
	width := r.IntN(65)
	for range r.IntN(most + 1) {
		l = append(l, n)
		if r.IntN(20) == 0 {
			width = r.IntN(65)
		}
		n += step + int64(r.Uint64()>>(64-width))
	}
	return l
}

// randomBytes are a list's bytes, most often, but for one thing or another.
func randomBytes(r *rand.Rand) []byte {
	l := randomList(r, 300)
	b := told(l)
	switch r.IntN(7) {
	case 0:
		b = b[:r.IntN(len(b)+1)]
	case 1:
		b = append(b, byte(r.Uint32()), byte(r.Uint32()))
	case 2:
		b[r.IntN(len(b))] = byte(r.Uint32())
	case 3:
		b[r.IntN(len(b))] ^= 1 << r.IntN(8)
	case 4:
		b = toldBy(l, func() loose { return randomLoose(r) })
	}
	return b
}

func randomLoose(r *rand.Rand) loose {
	way := loose{whole(0), 0, whole(0)}
	switch r.IntN(6) {
	case 0:
		way.lower = whole(r.Int64N(3))
	case 1:
		way.wider = r.IntN(3)
	case 2:
		way.fill = whole(r.Int64())
	}
	return way
}
