package dict_test

import (
	"fmt"
	"math"
	"math/rand/v2"
	"slices"
	"strings"
	"testing"

	"marquetry/api"
	"marquetry/datum"
	"marquetry/dict"
)

func data(l ...api.Datum) []api.Datum { return l }

func times[T any](n int, one T) []T { return slices.Repeat([]T{one}, n) }

func join[T any](parts ...[]T) []T { return slices.Concat(parts...) }

// upTo are the numbers 0 to n - 1.
func upTo(n int) []int {
	l := make([]int, n)
	for i := range l {
		l[i] = i
	}
	return l
}

// wholes are so many values, each of them once.
func wholes(n int) []api.Datum {
	l := make([]api.Datum, n)
	for i := range l {
		l[i] = datum.Int64(int64(i) - 5)
	}
	return l
}

// tell is a list of data for a failed test to tell.
func tell(l []api.Datum) string {
	out := fmt.Sprintf("%d:", len(l))
	for _, d := range l[:min(len(l), 8)] {
		out += fmt.Sprintf(" {%d %d %.20q}", d.Kind, d.Int, d.Text)
	}
	return out
}

// made is a dictionary of values, and their numbers, once more: each value is
// looked for among all that came ahead of it.
func made(l []api.Datum) ([]api.Datum, []int) {
	var values []api.Datum
	var numbers []int
	for _, d := range l {
		same := func(other api.Datum) bool { return datum.Same(d, other) }
		at := slices.IndexFunc(values, same)
		if at < 0 {
			at = len(values)
			values = append(values, d)
		}
		numbers = append(numbers, at)
	}
	return values, numbers
}

// wantMade: is that the dictionary, are those the numbers, and are the values picked by them?
func wantMade(t *testing.T, l, values []api.Datum, numbers []int) {
	t.Helper()
	gotValues, gotNumbers := dict.Make(l...)
	if !slices.Equal(gotValues, values) || !slices.Equal(gotNumbers, numbers) {
		t.Errorf("Make(%s): %s; %.100v, not %s; %.100v", tell(l), tell(gotValues), gotNumbers, tell(values), numbers)
	}
	if picked, e := dict.Pick(gotValues, gotNumbers...); !slices.Equal(picked, l) || e != api.OK {
		t.Errorf("Pick(%s; %.100v): %s %v, not %s", tell(gotValues), gotNumbers, tell(picked), e, tell(l))
	}
}

// P12.1, P12.2: the chapter's example, and its like.
func TestMake(t *testing.T) {
	five, seven, none := datum.Int32(5), datum.Int32(7), datum.Bytes("")
	a, b := datum.Bytes("a"), datum.Bytes("b")
	for _, x := range []struct {
		what      string
		l, values []api.Datum
		numbers   []int
	}{
		{"the chapter's", data(seven, five, seven), data(seven, five), []int{0, 1, 0}},
		{"nothing", nil, nil, nil},
		{"no values", data(), nil, nil},
		{"one", data(five), data(five), []int{0}},
		{"one, often", times(20, five), data(five), times(20, 0)},
		{"as they come first, not by size", data(b, none, a, a, b, none), data(b, none, a), []int{0, 1, 2, 2, 0, 1}},
		{"truths", data(datum.Bool(true), datum.Bool(false), datum.Bool(true)), data(datum.Bool(true), datum.Bool(false)), []int{0, 1, 0}},
		{"a last one that came long ago", data(a, b, none, five, seven, a), data(a, b, none, five, seven), []int{0, 1, 2, 3, 4, 0}},
		{"all unlike", data(a, b, none, five, seven), data(a, b, none, five, seven), []int{0, 1, 2, 3, 4}},
	} {
		t.Run(x.what, func(t *testing.T) { wantMade(t, x.l, x.values, x.numbers) })
	}
}

// P12.1: two are the same, if all three fields are, and else are not.
func TestMakeHoldsFieldsAgainstEachOther(t *testing.T) {
	for _, x := range []struct {
		what string
		l    []api.Datum
	}{
		{"0 and -0", data(datum.Double(0), datum.Double(math.Copysign(0, -1)), datum.Float(0), datum.Float(float32(math.Copysign(0, -1))))},
		{"kinds", data(datum.Bool(true), datum.Int32(1), datum.Int64(1), api.Datum{Kind: 4, Int: 1}, api.Datum{Kind: 5, Int: 1})},
		{"bytes, and such of a fixed length", data(datum.Bytes("a"), datum.Fixed("a"))},
		{"what is no number, by its bits", data(api.Datum{Kind: 4, Int: 0x7fc00000}, api.Datum{Kind: 4, Int: 0x7fc00001}, api.Datum{Kind: 5, Int: 0x7ff8000000000000}, api.Datum{Kind: 5, Int: 0x7ff8000000000001})},
		{"numbers' highest and lowest bits", data(datum.Int64(math.MinInt64), datum.Int64(0), datum.Int64(1), datum.Int64(math.MaxInt64), datum.Int64(1<<53), datum.Int64(1<<53+1), datum.Int64(1<<32))},
		{"bytes, to the last one", data(datum.Bytes(""), datum.Bytes("\x00"), datum.Bytes("\x00\x00"), datum.Bytes("ab"), datum.Bytes("abc"), datum.Bytes("abd"), datum.Bytes("AB"))},
		{"bytes that are no UTF-8", data(datum.Bytes("\xff"), datum.Bytes("\xfe"), datum.Bytes("\xc3"), datum.Bytes("�"), datum.Bytes("\xff\xff"))},
		{"long bytes", data(datum.Bytes(strings.Repeat("x", api.MaxBytes)), datum.Bytes(strings.Repeat("x", api.MaxBytes-1)+"y"), datum.Bytes(strings.Repeat("x", api.MaxBytes-1)))},
		{"of no type", data(api.Datum{Kind: 3}, api.Datum{Kind: -1}, api.Datum{Kind: 8, Int: 1}, api.Datum{Kind: 8, Int: 1, Text: "a"}, api.Datum{Kind: 0, Int: 2}, api.Datum{Kind: 6, Int: 1}, api.Datum{Kind: 6, Int: 1, Text: "a"}, api.Datum{Kind: 7}, api.Datum{Kind: 1, Text: "a"})},
	} {
		t.Run(x.what, func(t *testing.T) {
			n := len(x.l)
			wantMade(t, x.l, x.l, upTo(n))
			wantMade(t, join(x.l, x.l, x.l), x.l, join(upTo(n), upTo(n), upTo(n)))
			for i, d := range x.l {
				wantMade(t, data(d, d), data(d), []int{0, 0})
				wantMade(t, append(slices.Clone(x.l), d), x.l, append(upTo(n), i))
			}
		})
	}
}

// P12.1: the same bytes are the same, wherever they lie.
func TestMakeOfTextsApart(t *testing.T) {
	var l []api.Datum
	for i := range 30 {
		l = append(l, datum.Bytes(string([]byte{'a', byte(i % 3)})))
	}
	wantMade(t, l, l[:3], slices.Repeat([]int{0, 1, 2}, 10))
}

// P12.1: of as many values as one likes.
func TestMakeOfManyValues(t *testing.T) {
	for _, n := range []int{255, 256, 257, api.MaxCount - 1, api.MaxCount, api.MaxCount + 1, 3 * api.MaxCount} {
		wantMade(t, wholes(n), wholes(n), upTo(n))
		wantMade(t, times(n, datum.Int32(1)), data(datum.Int32(1)), times(n, 0))
		wantMade(t, join(wholes(n), wholes(n)), wholes(n), join(upTo(n), upTo(n)))
	}
}

// randomData are values some of which are the same.
func randomData(r *rand.Rand, most int) []api.Datum {
	l := make([]api.Datum, r.IntN(most+1))
	for i := range l {
		kinds := []api.Kind{0, 1, 2, 4, 5, 6, 7, 3}
		l[i] = api.Datum{Kind: kinds[r.IntN(len(kinds))], Int: int64(r.IntN(3))}
		if l[i].Kind > 5 || r.IntN(9) == 0 {
			l[i].Text = strings.Repeat("ab", r.IntN(3))
		}
	}
	return l
}

// P12.1, P12.2: whatever the values, held against a second telling; none stands twice.
func TestMakeAndPick(t *testing.T) {
	r := rand.New(rand.NewPCG(1, 12))
	for range 20000 {
		l := randomData(r, 40)
		values, numbers := made(l)
		wantMade(t, l, values, numbers)
		got, _ := dict.Make(l...)
		for i, d := range got {
			if slices.Contains(got[:i], d) {
				t.Fatalf("Make(%s): %s: a value twice", tell(l), tell(got))
			}
		}
	}
}

// P12.2: the dictionary of a dictionary is it, value by value.
func TestMakeOfADictionary(t *testing.T) {
	r := rand.New(rand.NewPCG(2, 12))
	for range 2000 {
		values, _ := dict.Make(randomData(r, 40)...)
		wantMade(t, values, values, upTo(len(values)))
	}
}

// P12.1: values that are handed in are not changed, nor what stands behind them, and not kept; each answer is new memory.
func TestMakeKeepsNothing(t *testing.T) {
	r := rand.New(rand.NewPCG(3, 12))
	for _, l := range [][]api.Datum{wholes(100), times(50, datum.Bytes("a")), randomData(r, 60), randomData(r, 60)} {
		room := append(slices.Clone(l), wholes(80)...)
		before := slices.Clone(room)
		wantValues, wantNumbers := made(l)
		values, numbers := dict.Make(room[:len(l)]...)
		others, otherNumbers := dict.Make(room[:len(l)]...)
		clear(others[:cap(others)])
		clear(otherNumbers[:cap(otherNumbers)])
		if !slices.Equal(room, before) {
			t.Errorf("Make(%s): values were changed", tell(l))
		}
		clear(room)
		if !slices.Equal(values, wantValues) || !slices.Equal(numbers, wantNumbers) {
			t.Errorf("Make(%s): %s; %v: kept", tell(l), tell(values), numbers)
		}
	}
}

func pickRefused(t *testing.T, values []api.Datum, l []int) {
	t.Helper()
	if picked, e := dict.Pick(values, l...); picked != nil || e != api.ErrRange {
		t.Errorf("Pick(%s; %.100v (%d numbers)): %s %v, not %v", tell(values), l, len(l), tell(picked), e, api.ErrRange)
	}
}

// P12.1
func TestPick(t *testing.T) {
	a, b, none := datum.Bytes("a"), datum.Bytes("b"), datum.Bytes("")
	for _, x := range []struct {
		values []api.Datum
		l      []int
		want   []api.Datum
	}{
		{nil, nil, nil},
		{data(a, b, none), nil, nil},
		{data(a, b, none), []int{}, nil},
		{data(a, b, none), []int{2, 1, 0}, data(none, b, a)},
		{data(a, b, none), []int{0, 0, 2, 2, 0}, data(a, a, none, none, a)},
		{data(a, b, none), []int{1}, data(b)},
		{data(a), times(9, 0), times(9, a)},
		// No dictionary that Make makes: its values are picked as well.
		{data(a, b, a), []int{2, 1, 0}, data(a, b, a)},
		{data(a, datum.Int32(1), api.Datum{Kind: 3, Text: "x"}), []int{2, 1}, data(api.Datum{Kind: 3, Text: "x"}, datum.Int32(1))},
	} {
		if picked, e := dict.Pick(x.values, x.l...); !slices.Equal(picked, x.want) || e != api.OK {
			t.Errorf("Pick(%s; %v): %s %v, not %s", tell(x.values), x.l, tell(picked), e, tell(x.want))
		}
	}
}

// P12.1: a number that the dictionary has not, wherever it stands.
func TestPickOfNoNumber(t *testing.T) {
	for size := range 6 {
		values := wholes(size)
		for _, n := range []int{-1, -2, -size - 1, size, size + 1, 1 << 16, 1 << 32, 1<<32 + 1, math.MaxInt, math.MinInt, math.MinInt + 1} {
			pickRefused(t, values, []int{n})
			pickRefused(t, values, append(upTo(size), n))
			pickRefused(t, values, append([]int{n}, upTo(size)...))
			pickRefused(t, values, join(upTo(size), []int{n}, upTo(size)))
			pickRefused(t, values, times(3, n))
		}
		// Room behind the values is none of them.
		pickRefused(t, wholes(size + 3)[:size], []int{size})
	}
	pickRefused(t, wholes(api.MaxCount), []int{0, api.MaxCount})
	pickRefused(t, wholes(2), append(times(api.MaxCount+1, 1), 2))
}

// P12.1: of as many values, by as many numbers as one likes.
func TestPickOfMany(t *testing.T) {
	for _, n := range []int{api.MaxCount, api.MaxCount + 1, 3 * api.MaxCount} {
		values := wholes(n)
		back := upTo(n)
		slices.Reverse(back)
		want := slices.Clone(values)
		slices.Reverse(want)
		if picked, e := dict.Pick(values, back...); !slices.Equal(picked, want) || e != api.OK {
			t.Errorf("%d: %s %v", n, tell(picked), e)
		}
	}
}

// P12.1: what is handed in is not changed, and not kept; each answer is new memory.
func TestPickKeepsNothing(t *testing.T) {
	values, numbers := append(wholes(20), wholes(4)...), append(upTo(20), 1, 2, 3)
	wereValues, wereNumbers := slices.Clone(values), slices.Clone(numbers)
	picked, _ := dict.Pick(values[:20], numbers[:20]...)
	other, _ := dict.Pick(values[:20], numbers[:20]...)
	clear(other[:cap(other)])
	if !slices.Equal(values, wereValues) || !slices.Equal(numbers, wereNumbers) {
		t.Errorf("%s; %v: changed", tell(values), numbers)
	}
	clear(values)
	clear(numbers)
	if !slices.Equal(picked, wereValues[:20]) {
		t.Errorf("%s: kept", tell(picked))
	}
}
