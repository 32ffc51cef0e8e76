package flate_test

import (
	"bytes"
	"compress/flate"
	"math"
	"math/rand/v2"
	"slices"
	"testing"

	"marquetry/api"
	own "marquetry/flate"
)

type row struct {
	stream, made []byte
}

func examples() []row {
	return []row{
		{unhex("01 00 00 ff ff"), nil},
		{unhex("01 03 00 fc ff 61 62 63"), []byte("abc")},
		{unhex("4b 4c 4a 06 00"), []byte("abc")},
		{unhex("4b 04 01 00"), []byte("aaaaa")},
	}
}

func storedOnes(r *rand.Rand) []row {
	var l []row
	for _, n := range []int{0, 1, 2, 255, 256, 257, 65534, 65535} {
		b := randomBytes(r, n, 256)
		for passed := range 2 {
			l = append(l, row{new(writer).stored(true, passed, b).stream(), b})
			l = append(l, row{new(writer).stored(false, passed, b).stored(false, 1, nil).stored(true, passed, []byte("end")).stream(), append(slices.Clone(b), "end"...)})
			// Behind a block that ends within a byte.
			l = append(l, row{new(writer).fixed(false).text("ab").end().stored(true, passed, b).stream(), join([]byte("ab"), b)})
		}
	}
	for shift := range 8 {
		l = append(l, row{shifted(shift).stored(true, 1, []byte("abc")).stream(), []byte("abc")})
	}
	return l
}

func fixedOnes(r *rand.Rand) []row {
	l := []row{{new(writer).fixed(true).end().stream(), nil}}
	all := new(writer).fixed(true)
	var made []byte
	for c := range 256 {
		all.symbol(c)
		made = append(made, byte(c))
	}
	l = append(l, row{all.end().stream(), made})
	for size := 3; size <= 258; size++ {
		w := new(writer).fixed(true).text("xyz")
		w.size(size).back(1 + size%3).text("!").size(size).back(size + 2)
		l = append(l, row{w.end().stream(), again(append(again([]byte("xyz"), size, 1+size%3), '!'), size, size+2)})
	}
	// 258 bytes have two symbols.
	w := new(writer).fixed(true).text("ab").symbol(284)
	w.number(31, 5)
	l = append(l, row{w.back(2).end().stream(), again([]byte("ab"), 258, 2)})
	b := randomBytes(r, 32768, 256)
	for _, s := range backs() {
		for _, back := range []int{s.from, s.from + 1<<s.bits/2, s.from + 1<<s.bits - 1} {
			w := new(writer).stored(false, 0, b[:back]).fixed(true).size(5).back(back)
			l = append(l, row{w.end().stream(), again(b[:back], 5, back)})
		}
	}
	return l
}

// lengthsOf are lengths for n symbols of which some have codes.
func lengthsOf(n int, lengths map[int]int) []int {
	l := make([]int, n)
	for symbol, length := range lengths {
		l[symbol] = length
	}
	return l
}

// staircase are lengths for n symbols: 1, 2, up to 15, and 15 once more, beginning with a symbol and going down.
func staircase(n, from int) []int {
	l := make([]int, n)
	for i := range 15 {
		l[from-i] = i + 1
	}
	l[from-15] = 15
	return l
}

func dynamicOnes() []row {
	var l []row
	// One code alone; none for distances, one alone, two, all.
	end := lengthsOf(257, map[int]int{256: 1})
	for _, distances := range [][]int{{0}, {1}, {0, 1}, {1, 1}, make([]int, 30), lengthsOf(30, map[int]int{29: 1}), slices.Concat(times(2, 4), times(28, 5))} {
		l = append(l, row{new(writer).coded(true, plainRow(end, distances)).end().stream(), nil})
		few := lengthsOf(286, map[int]int{'a': 1, 'b': 2, 256: 2})
		l = append(l, row{new(writer).coded(true, plainRow(few, distances)).text("abba").end().stream(), []byte("abba")})
	}
	// A distance alone.
	copies := lengthsOf(286, map[int]int{'a': 2, 'b': 2, 256: 2, 260: 3, 285: 3})
	w := new(writer).coded(true, plainRow(copies, []int{0, 1})).text("ab").size(6).back(2).size(258).back(2)
	l = append(l, row{w.end().stream(), again([]byte("ab"), 264, 2)})
	// The longest codes.
	w = new(writer).coded(true, plainRow(staircase(286, 264), staircase(30, 17))).text("\xf9\xfa\xff").size(3).back(3)
	l = append(l, row{w.size(10).back(4).size(4).back(5).end().stream(), again(again(again([]byte("\xf9\xfa\xff"), 3, 3), 10, 4), 4, 5)})
	// Fewer lengths than all.
	for _, n := range []int{257, 258, 272, 285, 286} {
		w := new(writer).coded(true, plainRow(staircase(n, 256), []int{0})).text("\xf1\xf2\xff")
		l = append(l, row{w.end().stream(), []byte("\xf1\xf2\xff")})
	}
	return l
}

// rows are dynamic blocks whose lengths are told in many ways.
func rows(r *rand.Rand) []row {
	var l []row
	for range 300 {
		symbols := lengthsOf(257+r.IntN(30), map[int]int{'a': 2, 'b': 3, 'c': 3, 'd': 3, 'e': 3, 256: 2})
		for _, distances := range [][]int{make([]int, 1+r.IntN(30)), times(4, 2), times(16, 4), {1}, append(make([]int, r.IntN(29)), 1)} {
			w := new(writer).coded(true, randomLayout(r, symbols, distances)).text("abacadae")
			l = append(l, row{w.end().stream(), []byte("abacadae")})
		}
	}
	return l
}

func opened(r *rand.Rand) []row {
	return slices.Concat(examples(), storedOnes(r), fixedOnes(r), dynamicOnes(), rows(r))
}

// shifted is a stream's blocks that make nothing and end with so many bits of a byte.
func shifted(bits int) *writer {
	w := new(writer)
	if bits%2 != 0 {
		l := layout{lengthsOf(257, map[int]int{256: 1}), make([]int, 3), lengthsOf(19, map[int]int{18: 1, 1: 2, 17: 2}), nil}
		l.row = []told{{18, 127}, {18, 118 - 11}, {1, 0}, {17, 0}}
		w.coded(false, l).end() // 95 bits
	}
	for w.bits != bits {
		w.fixed(false).end() // 10 bits
	}
	return w
}

// P6.1
func TestInflate(t *testing.T) {
	for _, x := range opened(rand.New(rand.NewPCG(1, 6))) {
		for _, behind := range []string{"", "\x00", "\xff\xff\xff\xff\xff", "\x01\x03\x00\xfc\xffabc"} {
			for _, most := range []int{len(x.made), min(len(x.made)+1, api.MaxBytes), api.MaxBytes} {
				made, size, e := own.Inflate(append(slices.Clone(x.stream), behind...), most)
				if !bytes.Equal(made, x.made) || size != len(x.stream) || e != api.OK {
					t.Errorf("Inflate(%.40x.. %x, %d): %.40x.. %d %v", x.stream, behind, most, made, size, e)
				}
			}
		}
	}
}

// P6.1: bits of the last byte that are not read may be any.
func TestBitsThatAreNotRead(t *testing.T) {
	for shift := range 8 {
		w := shifted(shift).fixed(true).text("abc").end()
		want := []byte("abc")
		b := w.stream()
		for bit := w.bits; bit > 0 && bit < 8; bit++ {
			c := slices.Clone(b)
			c[len(c)-1] |= 1 << bit
			if made, size, e := own.Inflate(c, 100); !bytes.Equal(made, want) || size != len(c) || e != api.OK {
				t.Errorf("%x: %x %d %v", c, made, size, e)
			}
		}
	}
}

// P6.1, P6.3
func TestEachShorterBeginningIsShort(t *testing.T) {
	for _, x := range opened(rand.New(rand.NewPCG(2, 6))) {
		for n := range x.stream {
			if n > 40 && n < len(x.stream)-10 && n%(31+len(x.stream)/20) != 0 {
				continue
			}
			if made, size, e := own.Inflate(x.stream[:n], api.MaxBytes); made != nil || size != 0 || e != api.ErrShort {
				t.Fatalf("%d bytes of %.40x..: %x %d %v", n, x.stream, made, size, e)
			}
		}
	}
}

// told to be wrong, by the last bit that is laid, not earlier, and without a bit more, wherever bytes end.
func givesUp(t *testing.T, name string, want api.Errno, most int, lay func(*writer)) {
	t.Helper()
	for shift := range 8 {
		w := shifted(shift)
		lay(w)
		b := w.stream()
		filled := slices.Clone(b)
		for bit := w.bits; bit > 0 && bit < 8; bit++ {
			filled[len(b)-1] |= 1 << bit
		}
		for _, c := range [][]byte{b, filled, append(slices.Clone(b), 0, 0, 0), append(slices.Clone(filled), 255, 255)} {
			if made, size, e := own.Inflate(c, most); made != nil || size != 0 || e != want {
				t.Errorf("%s, %d bits on: Inflate(%x, %d): %x %d %v, not %v", name, shift, c, most, made, size, e, want)
			}
		}
		for n := range b {
			if n > 20 && n < len(b)-3 && n%11 != 0 {
				continue
			}
			if made, size, e := own.Inflate(b[:n], most); made != nil || size != 0 || e != api.ErrShort {
				t.Errorf("%s, %d bits on: Inflate(%x, %d): %x %d %v, not ErrShort", name, shift, b[:n], most, made, size, e)
			}
		}
	}
}

func wrong(t *testing.T, name string, lay func(*writer)) {
	t.Helper()
	givesUp(t, name, api.ErrForm, api.MaxBytes, lay)
}

// P6.1
func TestExamplesThatAreNone(t *testing.T) {
	for s, want := range map[string]api.Errno{"": api.ErrShort, "01 03": api.ErrShort, "4b 4c": api.ErrShort, "07": api.ErrForm, "01 03 00 fc fe": api.ErrForm} {
		if made, size, e := own.Inflate(unhex(s), 100); made != nil || size != 0 || e != want {
			t.Errorf("Inflate(%s): %x %d %v, not %v", s, made, size, e, want)
		}
	}
	if made, size, e := own.Inflate(nil, 0); made != nil || size != 0 || e != api.ErrShort {
		t.Errorf("Inflate(nil): %x %d %v", made, size, e)
	}
}

// P6.1
func TestBlocksThatAreNone(t *testing.T) {
	for _, last := range []bool{false, true} {
		wrong(t, "kind 3", func(w *writer) { w.head(last, 3) })
		wrong(t, "kind 3 behind a stored block", func(w *writer) { w.stored(false, 0, []byte("abc")).head(last, 3) })
		for _, x := range [][2]int{{3, 65533}, {3, 65531}, {0, 0}, {0, 65534}, {65535, 1}, {65535, 65535}, {3, 3}, {256, 65535 ^ 1}, {1, 65535 ^ 256}, {3, 65532 ^ 32768}} {
			wrong(t, "a stored block's numbers", func(w *writer) { w.head(last, 0).fill(0).number(x[0], 16).number(x[1], 16) })
		}
	}
}

// P6.1
func TestNumbersOfADynamicBlock(t *testing.T) {
	for _, x := range [][2]int{{30, 0}, {31, 0}, {0, 30}, {0, 31}, {30, 30}, {31, 31}, {29, 30}, {30, 29}} {
		for _, lengths := range []int{0, 1, 8, 15} {
			wrong(t, "three numbers", func(w *writer) { w.head(true, 2).number(x[0], 5).number(x[1], 5).number(lengths, 4) })
		}
	}
}

// P6.1
func TestLengthsOfLengthsCodes(t *testing.T) {
	for name, first := range map[string]map[int]int{
		"none":       {},
		"one alone":  {18: 1},
		"one of 0":   {0: 1},
		"incomplete": {16: 1, 17: 2, 18: 3},
		"only just":  {16: 1, 17: 2, 18: 3, 0: 4, 8: 5, 7: 6, 9: 7},
		"over-full":  {16: 1, 17: 1, 18: 7},
		"far over":   {16: 1, 17: 1, 18: 1, 0: 1, 8: 1, 7: 1},
		"all of 7":   {16: 7, 17: 7, 18: 7, 0: 7, 8: 7, 7: 7, 9: 7, 15: 7},
		"by the end": {16: 1, 17: 1, 15: 7},
		"15 missing": {16: 1, 17: 2, 15: 3},
	} {
		for n := 4; n <= 19; n++ {
			if weightOf(first, n) == 1<<15 {
				continue
			}
			wrong(t, name, func(w *writer) {
				w.head(true, 2).number(0, 5).number(0, 5).number(n-4, 4).lengths(lengthsOf(19, first), n)
			})
		}
	}
}

// weightOf is what the first n of lengths' codes weigh.
func weightOf(first map[int]int, n int) int {
	var l []int
	for _, symbol := range order()[:n] {
		l = append(l, first[symbol])
	}
	return weight(l)
}

// P6.1
func TestRowsThatAreNone(t *testing.T) {
	first := lengthsOf(19, map[int]int{0: 2, 1: 3, 15: 3, 16: 2, 17: 3, 18: 3})
	none := make([]int, 257)
	lay := func(distances int, row ...told) func(*writer) {
		return func(w *writer) { w.dynamic(true, layout{none, make([]int, distances), first, row}) }
	}
	for n := range 4 {
		wrong(t, "the length ahead of the first one", lay(1, told{16, n}))
	}
	// 255 lengths, of 258: a row that goes on too far.
	long := []told{{18, 127}, {18, 117 - 11}}
	for n := range 4 {
		if n > 0 {
			wrong(t, "the length ahead, too often", lay(1, append(long, told{16, n})...))
		}
		wrong(t, "a nought more often than is left", lay(1, append(long, told{0, 0}, told{17, n})...))
	}
	for n := 1; n < 8; n++ {
		wrong(t, "noughts, too often", lay(1, append(long, told{17, n})...))
	}
	for _, n := range []int{0, 1, 9, 126, 127} {
		wrong(t, "many noughts, too often", lay(1, append(long, told{18, n})...))
		wrong(t, "many noughts, too often, at the end", lay(1, append(long, told{1, 0}, told{1, 0}, told{18, n})...))
	}
	wrong(t, "one nought too often", lay(30, told{18, 127}, told{18, 127}, told{18, 1}))
	wrong(t, "noughts at the last place", lay(30, told{18, 127}, told{18, 127}, told{17, 7}, told{17, 0}))
}

// P6.1
func TestLengthsThatAreNone(t *testing.T) {
	good := lengthsOf(257, map[int]int{'a': 1, 256: 1})
	for name, lengths := range map[string]map[int]int{
		"none":                     {},
		"256 has none":             {'a': 1, 'b': 1},
		"another one alone":        {'a': 1},
		"alone, of length 2":       {256: 2},
		"alone, of length 15":      {256: 15},
		"incomplete":               {'a': 1, 256: 2},
		"incomplete, only just":    {0: 1, 1: 2, 2: 3, 3: 4, 4: 5, 5: 6, 6: 7, 7: 8, 8: 9, 9: 10, 10: 11, 11: 12, 12: 13, 13: 14, 256: 15},
		"over-full":                {'a': 1, 'b': 1, 256: 1},
		"over-full, only just":     {'a': 1, 'b': 1, 256: 15},
		"two of length 1, no 256":  {0: 1, 255: 1},
		"two, of lengths 2 and 2":  {'a': 2, 256: 2},
		"one of 1 and one of 15":   {'a': 15, 256: 1},
		"complete, but for length": {'a': 2, 'b': 2, 'c': 2, 256: 3},
	} {
		wrong(t, "symbols: "+name, func(w *writer) { w.dynamic(true, plainRow(lengthsOf(257, lengths), []int{0})) })
		wrong(t, "symbols, behind which distances stand: "+name, func(w *writer) { w.dynamic(true, plainRow(lengthsOf(286, lengths), []int{1, 1})) })
	}
	for name, distances := range map[string][]int{
		"alone, of length 2":    {2},
		"alone, of length 15":   {0, 0, 15},
		"incomplete":            {1, 2},
		"incomplete, only just": {1, 2, 3, 4, 5, 6, 7, 8, 9, 10, 11, 12, 13, 14, 15},
		"over-full":             {1, 1, 1},
		"over-full, only just":  {1, 1, 0, 15},
		"two, of length 2":      {2, 2},
		"30 of length 5":        times(30, 5),
		"30 of length 1":        times(30, 1),
	} {
		wrong(t, "distances: "+name, func(w *writer) { w.dynamic(true, plainRow(good, distances)) })
		wrong(t, "both: "+name, func(w *writer) { w.dynamic(true, plainRow(make([]int, 257), distances)) })
	}
}

// P6.1
func TestCodesThatAreNone(t *testing.T) {
	alone := plainRow(lengthsOf(257, map[int]int{256: 1}), []int{0})
	wrong(t, "another bit than that of a code alone", func(w *writer) { w.dynamic(true, alone).number(1, 1) })
	copies := lengthsOf(286, map[int]int{'a': 2, 256: 2, 257: 2, 270: 3, 285: 3})
	for _, distances := range [][]int{{0}, make([]int, 30)} {
		none := plainRow(copies, distances)
		wrong(t, "a copy of 3 without distances", func(w *writer) { w.coded(true, none).text("a").size(3) })
		wrong(t, "a copy of 258 without distances", func(w *writer) { w.coded(true, none).text("a").size(258) })
		wrong(t, "a copy without distances and bytes", func(w *writer) { w.coded(true, none).size(3) })
		for n := 23; n <= 26; n++ {
			wrong(t, "a copy by a number without distances", func(w *writer) { w.coded(true, none).text("a").size(n) })
		}
	}
	for _, distances := range [][]int{{1}, {0, 1}, lengthsOf(30, map[int]int{29: 1})} {
		one := plainRow(copies, distances)
		wrong(t, "another bit than that of a distance alone", func(w *writer) { w.coded(true, one).text("a").size(24).number(1, 1) })
	}
}

// P6.1
func TestSymbolsThatAreNone(t *testing.T) {
	for _, last := range []bool{false, true} {
		for _, symbol := range []int{286, 287} {
			wrong(t, "a symbol", func(w *writer) { w.fixed(last).symbol(symbol) })
			wrong(t, "a symbol behind others", func(w *writer) { w.fixed(last).text("abc").size(10).back(2).symbol(symbol) })
		}
		for _, digits := range []string{"11110", "11111"} {
			wrong(t, "a distance", func(w *writer) { w.fixed(last).text("abc").size(3).code(digits) })
			wrong(t, "a distance behind a number", func(w *writer) { w.fixed(last).text("abc").size(100).code(digits) })
		}
	}
}

// P6.1
func TestCopiesFromAheadOfTheFirstByte(t *testing.T) {
	for _, size := range []int{3, 10, 11, 258} {
		for _, back := range []int{6, 7, 8, 9, 100, 32768} {
			wrong(t, "a copy from far back", func(w *writer) { w.fixed(true).text("abcde").size(size).back(back) })
		}
	}
}

// P6.1
func TestBounds(t *testing.T) {
	stream := unhex("4b 4c 4a 06 00")
	for _, most := range []int{-1, -2, math.MinInt, math.MinInt32, api.MaxBytes + 1, 1 << 31, math.MaxInt} {
		for _, b := range [][]byte{stream, nil, unhex("07"), unhex("01 03"), unhex("01 00 00 ff ff")} {
			if made, size, e := own.Inflate(b, most); made != nil || size != 0 || e != api.ErrArg {
				t.Errorf("Inflate(%x, %d): %x %d %v", b, most, made, size, e)
			}
		}
	}
	for _, b := range []string{"01 00 00 ff ff", "03 00", "00 00 00 ff ff 03 00"} {
		if made, size, e := own.Inflate(unhex(b), 0); len(made) != 0 || size != len(unhex(b)) || e != api.OK {
			t.Errorf("Inflate(%s, 0): %x %d %v", b, made, size, e)
		}
	}
}

// P6.1: ErrLong is told when a byte more would be made.
func TestMoreBytesThanTheBound(t *testing.T) {
	long := func(name string, most int, lay func(*writer)) {
		t.Helper()
		givesUp(t, name, api.ErrLong, most, lay)
	}
	for n := range 5 {
		long("a symbol", n, func(w *writer) { w.fixed(true).text("abcde"[:n+1]) })
		long("a stored byte", n, func(w *writer) { w.head(true, 0).fill(0).number(5, 16).number(65530, 16).text("abcde"[:n+1]) })
		long("a stored byte of many", n, func(w *writer) { w.head(true, 0).fill(0).number(65535, 16).number(0, 16).text("abcde"[:n+1]) })
	}
	for n := 2; n < 7; n++ {
		long("a copy of 5", n, func(w *writer) { w.fixed(true).text("ab").size(5).back(2) })
	}
	for _, n := range []int{1, 2, 3, 100, 258} {
		long("a copy of 258", n, func(w *writer) { w.fixed(true).text("a").size(258).back(1) })
	}
	// What else is wrong is wrong first, or behind.
	for n := 2; n < 5; n++ {
		givesUp(t, "a copy from ahead of the first byte, beyond the bound", api.ErrForm, n, func(w *writer) { w.fixed(true).text("ab").size(5).back(3) })
		givesUp(t, "a distance that is none, beyond the bound", api.ErrForm, n, func(w *writer) { w.fixed(true).text("ab").size(5).code("11110") })
	}
	for b, want := range map[string]api.Errno{
		"01 03 00 fc ff 61":       api.ErrShort,
		"01 03 00 fc ff 61 62":    api.ErrLong,
		"01 03 00 fc ff 61 62 63": api.ErrLong,
		"01 03 00 fc fe 61 62 63": api.ErrForm,
		"00 01 00 fe ff 61 07":    api.ErrForm,
		"00 01 00 fe ff 61":       api.ErrShort,
		"01 01 00 fe ff 61":       api.OK,
	} {
		if _, _, e := own.Inflate(unhex(b), 1); e != want {
			t.Errorf("Inflate(%s, 1): %v, not %v", b, e, want)
		}
	}
}

// P6.1: of a stream that makes more than MaxBytes, and of one that has more itself.
func TestInflateAtTheBound(t *testing.T) {
	w := new(writer)
	piece := times(65535, byte('a'))
	for range 16 {
		w.stored(false, 0, piece)
	}
	w.stored(false, 0, piece[:16])
	whole := *w
	b := join(w.stream(), unhex("03 00"))
	if made, size, e := own.Inflate(b, api.MaxBytes); len(made) != api.MaxBytes || size != len(b) || e != api.OK {
		t.Errorf("MaxBytes bytes: %d bytes, %d, %v", len(made), size, e)
	}
	if made, size, e := own.Inflate(join(whole.stream(), unhex("01 01 00 fe ff 61")), api.MaxBytes); made != nil || size != 0 || e != api.ErrLong {
		t.Errorf("MaxBytes bytes and one: %d bytes, %d, %v", len(made), size, e)
	}
	b = join(bytes.Repeat(unhex("00 00 00 ff ff"), 1<<19), unhex("4b 4c 4a 06 00"))
	if made, size, e := own.Inflate(b, 3); string(made) != "abc" || size != len(b) || e != api.OK {
		t.Errorf("many blocks: %q, %d, %v", made, size, e)
	}
}

// agree: the call and the model tell the same.
func agree(t *testing.T, b []byte, most int) api.Errno {
	t.Helper()
	want, n, why := model(b, most)
	made, size, e := own.Inflate(b, most)
	if !bytes.Equal(made, want) || size != n || e != why {
		t.Fatalf("Inflate(%x, %d): %x %d %v, not %x %d %v", b, most, made, size, e, want, n, why)
	}
	return e
}

// turned is a stream with a bit turned, a byte put, left out or laid between, or its end left out.
func turned(r *rand.Rand, b []byte) []byte {
	c := slices.Clone(b)
	at := r.IntN(len(c))
	switch r.IntN(6) {
	case 0:
		c[at] = byte(r.IntN(256))
	case 1:
		return slices.Delete(c, at, at+1)
	case 2:
		return slices.Insert(c, at, byte(r.IntN(256)))
	case 3:
		return c[:at]
	default:
		c[at] ^= 1 << r.IntN(8)
	}
	return c
}

// P6.1
func TestInflateByTheChaptersWords(t *testing.T) {
	r := rand.New(rand.NewPCG(3, 6))
	told := map[api.Errno]int{}
	for range 600 {
		b := randomStream(r)
		told[agree(t, b, api.MaxBytes)]++
		for range 6 {
			told[agree(t, turned(r, b), []int{api.MaxBytes, 300, r.IntN(100)}[r.IntN(3)])]++
		}
	}
	for _, e := range []api.Errno{api.OK, api.ErrShort, api.ErrForm, api.ErrLong} {
		if told[e] < 100 {
			t.Errorf("%v was told %d times of %v", e, told[e], told)
		}
	}
}

// P6.1
func TestInflateOfRandomBytes(t *testing.T) {
	r := rand.New(rand.NewPCG(4, 6))
	for range 20000 {
		agree(t, randomBytes(r, r.IntN(40), 256), r.IntN(50))
	}
	for a := range 256 {
		for c := range 256 {
			agree(t, []byte{byte(a), byte(c)}, 10)
		}
	}
}

// P6.1: streams that another writer laid.
func TestInflateOfAnothersStreams(t *testing.T) {
	r := rand.New(rand.NewPCG(5, 6))
	for level := flate.HuffmanOnly; level <= flate.BestCompression; level++ {
		for _, different := range []int{1, 2, 5, 30, 256} {
			for _, n := range []int{0, 1, 10, 1000, 70000} {
				b := randomBytes(r, n, different)
				var laid bytes.Buffer
				w, err := flate.NewWriter(&laid, level)
				if err != nil {
					t.Fatal(err)
				}
				w.Write(b[:n/3])
				w.Flush()
				w.Write(b[n/3:])
				w.Close()
				if made, size, e := own.Inflate(laid.Bytes(), n); !bytes.Equal(made, b) || size != laid.Len() || e != api.OK {
					t.Errorf("%d bytes of %d by level %d: %d bytes, %d of %d, %v", n, different, level, len(made), size, laid.Len(), e)
				}
			}
		}
	}
}

// keepsNothing: a call changes neither b nor what stands behind it, and each answer is memory of its own.
func keepsNothing(t *testing.T, b []byte, call func([]byte) []byte) {
	t.Helper()
	room := append(slices.Clone(b), "behind"...)
	was := slices.Clone(room)
	first, second := call(room[:len(b)]), call(room[:len(b)])
	want := slices.Clone(second)
	for i := range first {
		first[i] ^= 255
	}
	_ = append(first, "more"...)
	if !bytes.Equal(room, was) {
		t.Errorf("%x became %x", was, room)
	}
	for i := range room {
		room[i] ^= 255
	}
	if !bytes.Equal(second, want) {
		t.Errorf("%x: the answer changed from %x to %x", b, want, second)
	}
}

func TestInflateChangesAndKeepsNothing(t *testing.T) {
	r := rand.New(rand.NewPCG(6, 6))
	for _, x := range slices.Concat(examples(), dynamicOnes(), rows(r)[:20], fixedOnes(r)[:20]) {
		keepsNothing(t, x.stream, func(b []byte) []byte {
			made, _, _ := own.Inflate(b, api.MaxBytes)
			return made
		})
	}
}
