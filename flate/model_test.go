package flate_test

import (
	"bytes"
	"encoding/hex"
	"fmt"
	"math/rand/v2"
	"slices"
	"strings"
	"sync"

	"marquetry/api"
)

func join(parts ...[]byte) []byte { return slices.Concat(parts...) }

func times[T any](n int, what T) []T { return slices.Repeat([]T{what}, n) }

func unhex(s string) []byte {
	b, err := hex.DecodeString(strings.ReplaceAll(s, " ", ""))
	if err != nil {
		panic(err)
	}
	return b
}

// randomBytes are n bytes of so many different ones.
func randomBytes(r *rand.Rand, n, different int) []byte {
	b := make([]byte, n)
	for i := range b {
		b[i] = byte(r.IntN(different))
	}
	return b
}

// again is b and so many bytes behind it, each the same as that so far back.
func again(b []byte, size, back int) []byte {
	b = slices.Clone(b)
	for range size {
		b = append(b, b[len(b)-back])
	}
	return b
}

// codesByWords are each symbol's code, as digits to the base 2 ("": none), by layer 5's words.
func codesByWords(lengths []int) []string {
	var order []int
	for symbol, l := range lengths {
		if l > 0 {
			order = append(order, symbol)
		}
	}
	slices.SortStableFunc(order, func(a, b int) int { return lengths[a] - lengths[b] })
	codes, next, length := make([]string, len(lengths)), 0, 0
	for _, symbol := range order {
		next, length = next<<(lengths[symbol]-length), lengths[symbol]
		codes[symbol] = fmt.Sprintf("%0*b", length, next)
		next++
	}
	return codes
}

func weight(lengths []int) int {
	sum := 0
	for _, l := range lengths {
		if l > 0 {
			sum += 1 << (15 - l)
		}
	}
	return sum
}

// alone: is there one code alone, of length 1?
func alone(lengths []int) bool {
	var there []int
	for _, l := range lengths {
		if l > 0 {
			there = append(there, l)
		}
	}
	return slices.Equal(there, []int{1})
}

func fixedLengths() (symbols, distances []int) {
	return slices.Concat(times(144, 8), times(112, 9), times(24, 7), times(8, 8)), times(32, 5)
}

// spanned is the number from which on a symbol stands for more, and how many bits tell which.
type spanned struct{ from, bits int }

// sizes are those of the symbols from 257 on, by the chapter's words.
func sizes() []spanned {
	var l []spanned
	for size := 3; size <= 10; size++ {
		l = append(l, spanned{size, 0})
	}
	for i, begin := range []int{11, 19, 35, 67, 131} {
		for range 4 {
			l = append(l, spanned{begin, i + 1})
			begin += []int{2, 4, 8, 16, 32}[i]
		}
	}
	return append(l, spanned{258, 0})
}

// backs are those of the distances, by the chapter's words.
func backs() []spanned {
	l := []spanned{{1, 0}, {2, 0}, {3, 0}, {4, 0}}
	begin := 5
	for bits := 1; bits <= 13; bits++ {
		for range 2 {
			l = append(l, spanned{begin, bits})
			begin += 1 << bits
		}
	}
	return l
}

func order() []int {
	return []int{16, 17, 18, 0, 8, 7, 9, 6, 10, 5, 11, 4, 12, 3, 13, 2, 14, 1, 15}
}

// modelled goes through a stream by the chapter's words, a bit at a time, and panics with an Errno.
type modelled struct {
	b       []byte
	at      int
	most    int
	made    []byte
	symbols map[string]int // a block's, by their codes
	far     map[string]int
}

func model(b []byte, most int) (made []byte, size int, e api.Errno) {
	m := &modelled{b: b, most: most}
	defer func() {
		if why, is := recover().(api.Errno); is {
			made, size, e = nil, 0, why
		}
	}()
	for {
		last := m.number(1)
		switch m.number(2) {
		case 0:
			m.stored()
		case 1:
			m.symbols, m.far = fixedNumbered()
			m.codes()
		case 2:
			m.dynamic()
			m.codes()
		case 3:
			panic(api.ErrForm)
		}
		if last == 1 {
			return m.made, (m.at + 7) / 8, api.OK
		}
	}
}

// begun is what bits are with which codes only begin.
const begun = -1

// numbered is each code's symbol.
func numbered(lengths []int) map[string]int {
	l := map[string]int{}
	for symbol, code := range codesByWords(lengths) {
		for n := range code {
			l[code[:n]] = begun
		}
		if code != "" {
			l[code] = symbol
		}
	}
	return l
}

// fixedNumbered are a fixed block's, worked out once.
var fixedNumbered = sync.OnceValues(func() (symbols, distances map[string]int) {
	ofSymbols, ofDistances := fixedLengths()
	return numbered(ofSymbols), numbered(ofDistances)
})

func (m *modelled) number(bits int) int {
	n := 0
	for i := range bits {
		if m.at == 8*len(m.b) {
			panic(api.ErrShort)
		}
		if m.b[m.at/8]&(1<<(m.at%8)) != 0 {
			n += 1 << i
		}
		m.at++
	}
	return n
}

func (m *modelled) lay(c byte) {
	if len(m.made) >= m.most {
		panic(api.ErrLong)
	}
	m.made = append(m.made, c)
}

func (m *modelled) stored() {
	for m.at%8 != 0 {
		m.at++
	}
	n := m.number(8) + 256*m.number(8)
	if m.number(8)+256*m.number(8) != 65535-n {
		panic(api.ErrForm)
	}
	for range n {
		m.lay(byte(m.number(8)))
	}
}

// code takes bits while a code begins so.
func (m *modelled) code(codes map[string]int) int {
	bits := ""
	for {
		symbol, there := codes[bits]
		if !there {
			panic(api.ErrForm)
		}
		if symbol != begun {
			return symbol
		}
		bits += string(rune('0' + m.number(1)))
	}
}

func (m *modelled) dynamic() {
	symbols, distances, lengths := m.number(5)+257, m.number(5)+1, m.number(4)+4
	if symbols > 286 || distances > 30 {
		panic(api.ErrForm)
	}
	ofLengths := make([]int, 19)
	for i := range lengths {
		ofLengths[order()[i]] = m.number(3)
	}
	if weight(ofLengths) != 1<<15 {
		panic(api.ErrForm)
	}
	codes := numbered(ofLengths)
	var row []int
	for len(row) < symbols+distances {
		switch c := m.code(codes); c {
		case 16:
			n := m.number(2) + 3
			if len(row) == 0 {
				panic(api.ErrForm)
			}
			row = append(row, times(n, row[len(row)-1])...)
		case 17:
			row = append(row, make([]int, m.number(3)+3)...)
		case 18:
			row = append(row, make([]int, m.number(7)+11)...)
		default:
			row = append(row, c)
		}
	}
	if len(row) > symbols+distances {
		panic(api.ErrForm)
	}
	m.mayBe(row[:symbols], row[symbols:])
}

func (m *modelled) mayBe(symbols, distances []int) {
	if weight(symbols) != 1<<15 && !alone(symbols) || symbols[256] == 0 {
		panic(api.ErrForm)
	}
	if weight(distances) != 1<<15 && !alone(distances) && weight(distances) != 0 {
		panic(api.ErrForm)
	}
	m.symbols, m.far = numbered(symbols), numbered(distances)
}

func (m *modelled) codes() {
	for {
		symbol := m.code(m.symbols)
		switch {
		case symbol < 256:
			m.lay(byte(symbol))
			continue
		case symbol == 256:
			return
		case symbol > 285:
			panic(api.ErrForm)
		}
		size := sizes()[symbol-257]
		n := size.from + m.number(size.bits)
		distance := m.code(m.far)
		if distance > 29 {
			panic(api.ErrForm)
		}
		back := backs()[distance].from + m.number(backs()[distance].bits)
		if back > len(m.made) {
			panic(api.ErrForm)
		}
		for range n {
			m.lay(m.made[len(m.made)-back])
		}
	}
}

// writer lays a stream's bits.
type writer struct {
	bytes.Buffer
	held, bits int
}

// number lays a number of so many bits.
func (w *writer) number(n, bits int) *writer {
	for range bits {
		w.held |= n & 1 << w.bits
		n >>= 1
		if w.bits++; w.bits == 8 {
			w.fill(0)
		}
	}
	return w
}

// code lays a code's digits.
func (w *writer) code(digits string) *writer {
	for _, d := range digits {
		w.number(int(d-'0'), 1)
	}
	return w
}

// text lays bytes as they are.
func (w *writer) text(s string) *writer {
	for _, c := range []byte(s) {
		w.number(int(c), 8)
	}
	return w
}

// fill lays the bits up to the end of the byte.
func (w *writer) fill(bit int) *writer {
	for ; w.bits > 0 && w.bits < 8; w.bits++ {
		w.held |= bit << w.bits
	}
	if w.bits == 8 {
		w.WriteByte(byte(w.held))
		w.held, w.bits = 0, 0
	}
	return w
}

// stream is what was laid, the bits that are left 0.
func (w *writer) stream() []byte {
	c := writer{held: w.held, bits: w.bits}
	return join(w.Bytes(), c.fill(0).Bytes())
}

// head begins a block.
func (w *writer) head(last bool, kind int) *writer {
	if last {
		return w.number(1, 1).number(kind, 2)
	}
	return w.number(0, 1).number(kind, 2)
}

// stored lays a stored block, with bits of that kind passed over.
func (w *writer) stored(last bool, passed int, b []byte) *writer {
	w.head(last, 0).fill(passed)
	w.number(len(b), 16).number(65535-len(b), 16)
	return w.text(string(b))
}

// layout is how a dynamic block is laid.
type layout struct {
	symbols, distances []int
	first              []int // the lengths of lengths' codes
	row                []told
}

// told is a code of a row, and its number.
type told struct{ code, number int }

// dynamic lays a dynamic block's head.
func (w *writer) dynamic(last bool, l layout) *writer {
	w.head(last, 2).number(len(l.symbols)-257, 5).number(len(l.distances)-1, 5)
	n := 19
	for n > 4 && l.first[order()[n-1]] == 0 {
		n--
	}
	return w.number(n-4, 4).lengths(l.first, n).row(l)
}

func (w *writer) lengths(first []int, n int) *writer {
	for _, symbol := range order()[:n] {
		w.number(first[symbol], 3)
	}
	return w
}

func (w *writer) row(l layout) *writer {
	codes := codesByWords(l.first)
	for _, x := range l.row {
		w.code(codes[x.code])
		w.number(x.number, map[int]int{16: 2, 17: 3, 18: 7}[x.code])
	}
	return w
}

// plainRow tells lengths one by one, by codes of four or five bits.
func plainRow(symbols, distances []int) layout {
	l := layout{symbols, distances, slices.Concat(times(13, 4), times(6, 5)), nil}
	for _, length := range slices.Concat(symbols, distances) {
		l.row = append(l.row, told{length, 0})
	}
	return l
}

// completeLengths are those of k codes, none above a limit.
func completeLengths(r *rand.Rand, k, limit int) []int {
	l := []int{0}
	for len(l) < k {
		i := r.IntN(len(l))
		if l[i] < limit {
			l[i]++
			l = append(l, l[i])
		}
	}
	r.Shuffle(k, func(i, j int) { l[i], l[j] = l[j], l[i] })
	return l
}

// randomLengths are those of n symbols, k of which have codes, the last one among them, if it must.
func randomLengths(r *rand.Rand, n, k, limit int, must ...int) []int {
	l := make([]int, n)
	order := slices.DeleteFunc(r.Perm(n), func(symbol int) bool { return slices.Contains(must, symbol) })
	for i, length := range completeLengths(r, k, limit) {
		l[append(must, order...)[i]] = length
	}
	return l
}

// randomLayout tells lengths by any codes that can tell them.
func randomLayout(r *rand.Rand, symbols, distances []int) layout {
	l := layout{symbols, distances, nil, randomRow(r, slices.Concat(symbols, distances))}
	used := []int{0, 18}
	for _, x := range l.row {
		used = append(used, x.code)
	}
	slices.Sort(used)
	used = slices.Compact(used)
	l.first = randomLengths(r, 19, len(used)+r.IntN(20-len(used)), 7, used...)
	return l
}

func randomRow(r *rand.Rand, row []int) []told {
	var l []told
	for at := 0; at < len(row); {
		alike := 1
		for at+alike < len(row) && row[at+alike] == row[at] {
			alike++
		}
		x, n := told{row[at], 0}, 1
		switch kind := 16 + r.IntN(4); {
		case kind == 16 && at > 0 && row[at] == row[at-1] && alike >= 3:
			x, n = told{16, r.IntN(min(4, alike-2))}, 3
		case kind == 17 && row[at] == 0 && alike >= 3:
			x, n = told{17, r.IntN(min(8, alike-2))}, 3
		case kind >= 18 && row[at] == 0 && alike >= 11:
			x, n = told{18, r.IntN(min(128, alike-10))}, 11
		}
		l = append(l, x)
		at += n + x.number
	}
	return l
}

// randomStream is some blocks; now and then a copy goes too far back, or lengths are none.
func randomStream(r *rand.Rand) []byte {
	w := new(writer)
	n := r.IntN(3)
	for i := range n + 1 {
		last := i == n
		switch r.IntN(5) {
		case 0:
			w.stored(last, r.IntN(2), randomBytes(r, r.IntN(30), 256))
		case 1:
			w.fixed(last).random(r)
		default:
			w.coded(last, randomLayout(r, randomSymbols(r), randomDistances(r))).random(r)
		}
	}
	return w.stream()
}

func randomSymbols(r *rand.Rand) []int {
	n := 257 + r.IntN(30)
	l := randomLengths(r, n, 1+r.IntN(min(n, 1<<r.IntN(9))), 15, 256)
	if k := r.IntN(n); r.IntN(20) == 0 {
		l[k] = r.IntN(16)
	}
	if l[256] == 0 {
		l[256] = 1
	}
	return l
}

func randomDistances(r *rand.Rand) []int {
	n := 1 + r.IntN(30)
	l := randomLengths(r, n, 1+r.IntN(n), 15)
	if k := r.IntN(n); r.IntN(20) == 0 {
		l[k] = r.IntN(16)
	}
	return l
}

// random lays symbols that have codes, and the end.
func (w body) random(r *rand.Rand) body {
	for range r.IntN(60) {
		symbol := r.IntN(min(286, len(w.symbols)))
		if r.IntN(3) == 0 {
			symbol = min(257+r.IntN(8), len(w.symbols)-1)
		}
		if w.symbols[symbol] == "" || symbol == 256 {
			continue
		}
		w.symbol(symbol)
		if symbol > 256 {
			w.number(r.IntN(1<<5), sizes()[symbol-257].bits).randomBack(w, r)
		}
	}
	return body{w.end(), nil, nil}
}

// randomBack lays a distance, a small one more often.
func (w *writer) randomBack(b body, r *rand.Rand) {
	for range 100 {
		distance := r.IntN(min(30, len(b.distances), 1+1<<r.IntN(6)))
		if b.distances[distance] != "" {
			w.code(b.distances[distance]).number(r.IntN(1<<13), backs()[distance].bits)
			return
		}
	}
}

// body lays what a dynamic or fixed block makes: bytes, copies as sizes and backs in turn.
type body struct {
	*writer
	symbols, distances []string
}

func (w *writer) fixed(last bool) body {
	symbols, distances := fixedLengths()
	return body{w.head(last, 1), codesByWords(symbols), codesByWords(distances)}
}

func (w *writer) coded(last bool, l layout) body {
	return body{w.dynamic(last, l), codesByWords(l.symbols), codesByWords(l.distances)}
}

func (w body) symbol(s ...int) body {
	for _, symbol := range s {
		w.code(w.symbols[symbol])
	}
	return w
}

func (w body) text(s string) body {
	for _, c := range []byte(s) {
		w.symbol(int(c))
	}
	return w
}

// size begins a copy of so many bytes.
func (w body) size(n int) body {
	for i, s := range slices.Backward(sizes()) {
		if n >= s.from {
			w.symbol(257+i).number(n-s.from, s.bits)
			break
		}
	}
	return w
}

func (w body) back(n int) body {
	for i, s := range slices.Backward(backs()) {
		if n >= s.from {
			w.code(w.distances[i])
			w.number(n-s.from, s.bits)
			break
		}
	}
	return w
}

func (w body) end() *writer { return w.symbol(256).writer }
