package huffman_test

import (
	"fmt"
	"math"
	"math/rand/v2"
	"slices"
	"strconv"
	"strings"
	"testing"

	"marquetry/api"
	"marquetry/huffman"
)

// codesByWords are each symbol's code, as digits to the base 2, by the chapter's words ("": none).
func codesByWords(lengths []int) []string {
	var order []int
	for symbol, l := range lengths {
		if l > 0 {
			order = append(order, symbol)
		}
	}
	slices.SortStableFunc(order, func(a, b int) int { return lengths[a] - lengths[b] })
	codes, ahead := make([]string, len(lengths)), ""
	for i, symbol := range order {
		code := strings.Repeat("0", lengths[symbol])
		if i > 0 {
			code = addOne(ahead) + code[len(ahead):]
		}
		codes[symbol], ahead = code, code
	}
	return codes
}

// addOne adds 1 to digits to the base 2 that are not all 1.
func addOne(digits string) string {
	last := strings.LastIndex(digits, "0")
	return digits[:last] + "1" + strings.Repeat("0", len(digits)-last-1)
}

// numberOf is digits to the base 2 as a number.
func numberOf(digits string) int {
	n := 0
	for _, d := range digits {
		n = 2*n + int(d-'0')
	}
	return n
}

// digits is a code of so many bits.
func digits(code, length int) string {
	if length == 0 {
		return ""
	}
	return fmt.Sprintf("%0*b", length, code)
}

// P5.1
func TestCodes(t *testing.T) {
	for _, x := range []struct {
		lengths []int
		want    string
	}{
		{[]int{2, 1, 3, 3}, "10 0 110 111"},
		{[]int{1}, "0"}, {[]int{15}, "000000000000000"}, {[]int{0, 4, 0}, " 0000 "},
		{[]int{1, 1}, "0 1"}, {[]int{1, 2}, "0 10"}, {[]int{2, 1}, "10 0"}, {[]int{3, 1}, "100 0"}, {[]int{5, 1, 3}, "10100 0 100"},
		{[]int{3, 3, 3, 3, 3, 2, 4, 4}, "010 011 100 101 110 00 1110 1111"},
		{[]int{0, 2, 0, 2, 2, 2}, " 00  01 10 11"},
		{[]int{15, 15, 1}, "100000000000000 100000000000001 0"},
	} {
		codes, e := huffman.Codes(x.lengths)
		var told []string
		for i, code := range codes {
			told = append(told, digits(code, x.lengths[i]))
		}
		if strings.Join(told, " ") != x.want || e != api.OK {
			t.Errorf("Codes(%v): %q %v, not %q", x.lengths, told, e, x.want)
		}
	}
	for _, lengths := range [][]int{nil, {}} {
		if codes, e := huffman.Codes(lengths); len(codes) != 0 || e != api.OK {
			t.Errorf("Codes of nothing: %v %v", codes, e)
		}
	}
}

// P5.1
func TestCodesOfAFixedBlock(t *testing.T) {
	codes, e := huffman.Codes(fixed())
	if e != api.OK || len(codes) != 288 {
		t.Fatalf("%d codes, %v", len(codes), e)
	}
	for symbol, want := range map[int]int{0: 0b00110000, 143: 0b10111111, 144: 0b110010000, 255: 0b111111111, 256: 0, 279: 0b0010111, 280: 0b11000000, 287: 0b11000111} {
		if codes[symbol] != want {
			t.Errorf("%d: %b, not %b", symbol, codes[symbol], want)
		}
	}
}

// P5.1
func TestCodesByTheChaptersWords(t *testing.T) {
	for _, lengths := range notFull() {
		var want []int
		for _, code := range codesByWords(lengths) {
			want = append(want, numberOf(code))
		}
		if codes, e := huffman.Codes(lengths); !slices.Equal(codes, want) || e != api.OK {
			t.Errorf("Codes(%v): %v %v, not %v", lengths, codes, e, want)
		}
	}
}

// refused are lengths without codes, and why.
func refused() map[api.Errno][][]int {
	return map[api.Errno][][]int{
		api.ErrArg:  noLengths(),
		api.ErrLong: {times(1001, 0), times(1001, 15), times(1001, 1), times(1001, 10), times(70000, 1)},
		api.ErrFull: overFull(),
	}
}

// P5.1
func TestCodesOfWhatHasNone(t *testing.T) {
	for want, l := range refused() {
		for _, lengths := range l {
			if codes, e := huffman.Codes(lengths); codes != nil || e != want {
				t.Errorf("Codes of %d lengths (%.60v..): %v, not %v", len(lengths), lengths, e, want)
			}
		}
	}
}

// P5.1
func TestFind(t *testing.T) {
	for _, x := range []struct {
		lengths      []int
		code, length int
		want         int
		there        bool
	}{
		{[]int{2, 1, 3, 3}, 0b10, 2, 0, true},
		{[]int{2, 1, 3, 3}, 0, 1, 1, true},
		{[]int{2, 1, 3, 3}, 0b110, 3, 2, true},
		{[]int{2, 1, 3, 3}, 0b111, 3, 3, true},
		// The same number, of another length.
		{[]int{2, 1, 3, 3}, 0, 2, 0, false},
		{[]int{2, 1, 3, 3}, 0, 3, 0, false},
		{[]int{2, 1, 3, 3}, 0b10, 3, 0, false},
		{[]int{2, 1, 3, 3}, 0b10, 1, 0, false},
		{[]int{2, 1, 3, 3}, 0b11, 2, 0, false},
		{[]int{2, 1, 3, 3}, 1, 1, 0, false},
		// A symbol without a code has none, not even of length 0.
		{[]int{0}, 0, 0, 0, false},
		{[]int{0, 1}, 0, 0, 0, false},
		{[]int{0, 1}, 0, 1, 1, true},
		{[]int{0, 1}, 1, 1, 0, false},
		{nil, 0, 0, 0, false},
		{nil, 0, 1, 0, false},
		{times(1000, 0), 0, 15, 0, false},
		{join(times(999, 0), []int{1}), 0, 1, 999, true},
		{[]int{15}, 0, 15, 0, true},
		{[]int{15}, 1, 15, 0, false},
		// Numbers that are no code's.
		{[]int{1, 1}, 2, 1, 0, false},
		{[]int{1, 1}, -1, 1, 0, false},
		{[]int{1, 1}, 1 << 32, 1, 0, false},
		{[]int{1, 1}, 1 << 15, 16, 0, false},
		{[]int{1, 1}, 0, -1, 0, false},
		{[]int{1, 1}, 0, 16, 0, false},
		{[]int{1, 1}, 0, math.MaxInt, 0, false},
		{[]int{1, 1}, 0, math.MinInt, 0, false},
		{[]int{1, 1}, math.MaxInt, 1, 0, false},
		{[]int{1, 1}, math.MinInt, 1, 0, false},
	} {
		if symbol, there := huffman.Find(x.lengths, x.code, x.length); symbol != x.want || there != x.there {
			t.Errorf("Find(%.60v.., %b, %d): %d %v", x.lengths, x.code, x.length, symbol, there)
		}
	}
}

// P5.1: of lengths that Codes refuses Find finds nothing, whatever is asked.
func TestFindOfWhatHasNoCodes(t *testing.T) {
	for _, l := range refused() {
		for _, lengths := range l {
			for _, length := range []int{-1, 0, 1, 2, 9, 10, 15, 16} {
				for _, code := range []int{-1, 0, 1, 2, 7} {
					if symbol, there := huffman.Find(lengths, code, length); symbol != 0 || there {
						t.Errorf("Find of %d lengths (%.60v..), %d, %d: %d %v", len(lengths), lengths, code, length, symbol, there)
					}
				}
			}
		}
	}
}

// P5.3: Find of each symbol's code is the symbol; of all else it is nothing.
func TestFindOfAllCodes(t *testing.T) {
	r := rand.New(rand.NewPCG(2, 5))
	for _, lengths := range notFull() {
		codes := codesByWords(lengths)
		symbols := map[string]int{}
		for symbol, code := range codes {
			if code == "" {
				continue
			}
			symbols[code] = symbol
			if got, there := huffman.Find(lengths, numberOf(code), len(code)); got != symbol || !there {
				t.Errorf("Find(%v, %s): %d %v, not %d", lengths, code, got, there, symbol)
			}
		}
		for range 100 {
			length := 1 + r.IntN(15)
			code := r.IntN(1 << length)
			want, is := symbols[digits(code, length)]
			if got, there := huffman.Find(lengths, code, length); got != want || there != is {
				t.Errorf("Find(%v, %s): %d %v, not %d %v", lengths, digits(code, length), got, there, want, is)
			}
		}
	}
}

// codesTold are Codes as digits.
func codesTold(t *testing.T, lengths []int) []string {
	t.Helper()
	codes, e := huffman.Codes(lengths)
	if e != api.OK || len(codes) != len(lengths) {
		t.Fatalf("Codes(%v): %v", lengths, e)
	}
	var told []string
	for i, code := range codes {
		if lengths[i] > 0 {
			told = append(told, digits(code, lengths[i]))
		} else if code != 0 {
			t.Errorf("Codes(%v): %d of symbol %d, which has none", lengths, code, i)
		}
	}
	return told
}

// P5.3: no code begins another one; each has just so many bits.
func TestNoCodeBeginsAnother(t *testing.T) {
	for _, lengths := range notFull() {
		told := codesTold(t, lengths)
		slices.Sort(told)
		for i, code := range told {
			if len(code) > 15 || i > 0 && strings.HasPrefix(code, told[i-1]) {
				t.Errorf("Codes(%v): %q", lengths, told)
				break
			}
		}
	}
}

// P5.3: each row of 15 bits begins with just one code of complete lengths, and with at most one of others.
func TestRowsOfBitsBeginWithACode(t *testing.T) {
	for _, lengths := range notFull() {
		begins := make([]int, full)
		for _, code := range codesTold(t, lengths) {
			first := numberOf(code) << (15 - len(code))
			for i := range 1 << (15 - len(code)) {
				begins[first+i]++
			}
		}
		w, e := huffman.Weigh(lengths)
		if e != api.OK || w == full && slices.Min(begins) != 1 || slices.Max(begins) > 1 || w < full && slices.Min(begins) != 0 {
			t.Errorf("%v: %d, %v: rows begin with %d to %d codes", lengths, w, e, slices.Min(begins), slices.Max(begins))
		}
	}
}

// P5.3
func TestCodesRiseWithTheSymbols(t *testing.T) {
	for _, lengths := range notFull() {
		codes, e := huffman.Codes(lengths)
		last := map[int]int{}
		for symbol, length := range lengths {
			if length == 0 {
				continue
			}
			if ahead, there := last[length]; e != api.OK || there && codes[symbol] <= ahead {
				t.Fatalf("Codes(%v): %v %v", lengths, codes, e)
			}
			last[length] = codes[symbol]
		}
	}
}

func TestCodesAreTheSameEachTime(t *testing.T) {
	for i, lengths := range notFull() {
		first, _ := huffman.Codes(lengths)
		second, _ := huffman.Codes(lengths)
		if !slices.Equal(first, second) {
			t.Error(strconv.Itoa(i), lengths, first, second)
		}
	}
}

func TestCodesChangeAndKeepNothing(t *testing.T) {
	for _, lengths := range notFull() {
		keepsNothing(t, lengths, func(l []int) []int {
			huffman.Weigh(l)
			huffman.Find(l, 1, 2)
			codes, _ := huffman.Codes(l)
			return codes
		})
	}
}
