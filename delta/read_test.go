package delta_test

import (
	"math"
	"math/rand/v2"
	"slices"
	"testing"

	"marquetry/api"
	"marquetry/delta"
)

// wantRead: is b the list's bytes, whatever stands behind?
func wantRead(t *testing.T, b []byte, want []int64) {
	t.Helper()
	if l, e := delta.Read(b, len(want)); !slices.Equal(l, want) || e != api.OK {
		t.Errorf("Read(%.40x (%d bytes), %d): %v %v, not %v", b, len(b), len(want), front(l), e, front(want))
	}
	for _, behind := range [][]byte{nil, {0}, {255, 1}, b} {
		more := join(b, behind)
		if l, size, e := delta.Begin(more); !slices.Equal(l, want) || size != len(b) || e != api.OK {
			t.Errorf("Begin(%.40x (%d bytes)): %v %d %v, not %v %d", more, len(more), front(l), size, e, front(want), len(b))
		}
		if len(behind) > 0 {
			readRefused(t, more, len(want), api.ErrExtra)
		}
	}
}

func readRefused(t *testing.T, b []byte, count int, want api.Errno) {
	t.Helper()
	if l, e := delta.Read(b, count); l != nil || e != want {
		t.Errorf("Read(%.40x (%d bytes), %d): %v %v, not %v", b, len(b), count, front(l), e, want)
	}
}

// bothRefused: does neither call read b, by any count?
func bothRefused(t *testing.T, b []byte, want api.Errno) {
	t.Helper()
	if l, size, e := delta.Begin(b); l != nil || size != 0 || e != want {
		t.Errorf("Begin(%.40x (%d bytes)): %v %d %v, not %v", b, len(b), front(l), size, e, want)
	}
	for _, count := range []int{0, 1, 2, 200, api.MaxCount} {
		readRefused(t, b, count, want)
	}
	for _, count := range noCounts() {
		readRefused(t, b, count, api.ErrArg)
	}
}

// wantAnswer: is that told of b which is told of it once more? Read is asked by
// so many numbers more than there are.
func wantAnswer(t *testing.T, b []byte, more int) answer {
	t.Helper()
	want := beginOf(b)
	if l, size, e := delta.Begin(b); !slices.Equal(l, want.l) || size != want.size || e != want.e {
		t.Errorf("Begin(%x): %v %d %v, not %v %d %v", b, front(l), size, e, front(want.l), want.size, want.e)
	}
	count := len(want.l) + more
	read := readOf(want, len(b), count)
	if l, e := delta.Read(b, count); !slices.Equal(l, read.l) || e != read.e {
		t.Errorf("Read(%x, %d): %v %v, not %v %v", b, count, front(l), e, front(read.l), read.e)
	}
	return want
}

func noCounts() []int {
	return []int{-1, -2, -128, api.MaxCount + 1, api.MaxCount + 128, 1 << 32, 1<<32 + 1, math.MaxInt, math.MinInt, math.MinInt + 1}
}

// with is b and some bytes behind it, in new memory.
func with(b []byte, more ...byte) []byte { return join(b, more) }

// nines are nine bytes of a number that goes on.
func nines(c byte) []byte { return slices.Repeat([]byte{c}, 9) }

// P13.2: what is wrong with what stands ahead of the blocks, what comes first ahead of what comes behind.
func TestBeginOfAWrongHead(t *testing.T) {
	for _, x := range []struct {
		b    []byte
		want api.Errno
	}{
		{nil, api.ErrShort},
		{[]byte{128}, api.ErrShort},
		{[]byte{128, 1}, api.ErrShort},
		{[]byte{128, 1, 4}, api.ErrShort},
		{[]byte{128, 1, 4, 0}, api.ErrShort},
		{[]byte{128, 1, 4, 1}, api.ErrShort},
		{[]byte{128, 1, 4, 1, 128}, api.ErrShort},
		{[]byte{128, 1, 4, 128}, api.ErrShort},
		{[]byte{129}, api.ErrShort},
		{nines(255), api.ErrShort},
		{join([]byte{128, 1}, nines(128)), api.ErrShort},
		// Other numbers than 128 and 4.
		{[]byte{0}, api.ErrForm},
		{[]byte{127}, api.ErrForm},
		{[]byte{127, 4, 0, 0}, api.ErrForm},
		{[]byte{129, 1}, api.ErrForm},
		{[]byte{129, 1, 4, 0, 0}, api.ErrForm},
		{[]byte{128, 2, 4, 0, 0}, api.ErrForm},
		{[]byte{4, 128, 1, 0, 0}, api.ErrForm},
		{[]byte{128, 1, 3}, api.ErrForm},
		{[]byte{128, 1, 3, 0, 0}, api.ErrForm},
		{[]byte{128, 1, 5, 0, 0}, api.ErrForm},
		{[]byte{128, 1, 0, 0, 0}, api.ErrForm},
		{[]byte{128, 1, 132, 1, 0, 0}, api.ErrForm},
		{[]byte{128, 1, 8, 0, 0}, api.ErrForm},
		// Numbers that are none.
		{[]byte{128, 129, 0}, api.ErrForm},
		{[]byte{128, 0}, api.ErrForm},
		{[]byte{128, 1, 132, 0}, api.ErrForm},
		{[]byte{128, 1, 132, 128, 0, 0, 0}, api.ErrForm},
		{[]byte{128, 1, 4, 128, 0}, api.ErrForm},
		{[]byte{128, 1, 4, 129, 0, 0}, api.ErrForm},
		{[]byte{128, 1, 4, 0, 128, 0}, api.ErrForm},
		{[]byte{128, 1, 4, 1, 138, 0}, api.ErrForm},
		// Numbers of more than 64 bits.
		{join(nines(128), []byte{2}), api.ErrForm},
		{join(nines(128), []byte{128}), api.ErrForm},
		{join([]byte{128, 1}, nines(132), []byte{2}), api.ErrForm},
		{join([]byte{128, 1, 4}, nines(128), []byte{2}), api.ErrForm},
		{join([]byte{128, 1, 4}, nines(255), []byte{127}), api.ErrForm},
		{join([]byte{128, 1, 4, 1}, nines(255), []byte{2}), api.ErrForm},
		{join([]byte{128, 1, 4, 1}, nines(128), []byte{3}), api.ErrForm},
		{join([]byte{128, 1, 4, 1}, nines(255), []byte{129}), api.ErrForm},
		{join([]byte{128, 1, 4, 1}, nines(255), []byte{129, 0}), api.ErrForm},
		{join([]byte{128, 1, 4, 1}, nines(128), []byte{0}), api.ErrForm},
		// More than may be.
		{join([]byte{128, 1, 4}, number(api.MaxCount+1)), api.ErrForm},
		{join([]byte{128, 1, 4}, number(api.MaxCount+1), []byte{0}), api.ErrForm},
		{join([]byte{128, 1, 4}, number(1<<32)), api.ErrForm},
		{join([]byte{128, 1, 4}, number(1<<32+2)), api.ErrForm},
		{join([]byte{128, 1, 4}, nines(128), []byte{1}), api.ErrForm},
		{join([]byte{128, 1, 4}, nines(255), []byte{1}), api.ErrForm},
		{join([]byte{128, 1, 4}, number(api.MaxCount), []byte{0}), api.ErrShort},
		// A first one, where there is none.
		{[]byte{128, 1, 4, 0, 1}, api.ErrForm},
		{[]byte{128, 1, 4, 0, 2}, api.ErrForm},
		{[]byte{128, 1, 4, 0, 10}, api.ErrForm},
		{join([]byte{128, 1, 4, 0}, nines(255), []byte{1}), api.ErrForm},
		{[]byte{128, 1, 4, 0, 129}, api.ErrShort},
	} {
		bothRefused(t, x.b, x.want)
		if want := beginOf(x.b); want.e != x.want {
			t.Errorf("%x: the other telling is %v, not %v", x.b, want.e, x.want)
		}
	}
}

// P13.2: what is wrong with blocks, what comes first ahead of what comes behind.
func TestBeginOfAWrongBlock(t *testing.T) {
	three := []byte{128, 1, 4, 3, 0}      // and two differences
	more := []byte{128, 1, 4, 34, 0}      // and 33
	whole := []byte{128, 1, 4, 129, 1, 0} // and 128
	next := []byte{128, 1, 4, 130, 1, 0}  // and 129
	for _, x := range []struct {
		what string
		b    []byte
		want api.Errno
	}{
		{"no least", three, api.ErrShort},
		{"a least that ends too early", with(three, 128), api.ErrShort},
		{"a least that is no number", with(three, 130, 0, 0, 0, 0, 0), api.ErrForm},
		{"a least of too many bits", join(three, nines(255), []byte{3, 0, 0, 0, 0}), api.ErrForm},
		{"no widths", with(three, 2), api.ErrShort},
		{"three widths", with(three, 2, 0, 0, 0), api.ErrShort},
		{"a width of 65", with(three, 2, 65), api.ErrForm},
		{"a width of 65, and all that follows", join(three, []byte{2, 65, 0, 0, 0}, make([]byte, 4*65)), api.ErrForm},
		{"a width of 255", with(three, 2, 255), api.ErrForm},
		{"a width of 128", with(three, 2, 128, 0, 0, 0), api.ErrForm},
		{"a width of 65 behind others", with(whole, 2, 1, 64, 65), api.ErrForm},
		{"a last width of 65", with(whole, 2, 1, 64, 3, 65), api.ErrForm},
		{"a width of a second part that is not there", with(three, 2, 0, 1), api.ErrForm},
		{"a width of a third", with(three, 2, 0, 0, 1), api.ErrForm},
		{"a width of a fourth", with(three, 2, 0, 0, 0, 1), api.ErrForm},
		{"a width of a fourth, and its bytes", with(three, 2, 0, 0, 0, 1, 0, 0, 0, 0), api.ErrForm},
		{"a width of a third, where two are there", with(more, 2, 1, 1, 1), api.ErrForm},
		{"a width ahead of bytes that end too early", with(more, 2, 1, 1, 64, 0), api.ErrForm},
		{"a width of the second block's second part", with(next, 2, 0, 0, 0, 0, 2, 0, 1), api.ErrForm},
		{"no bytes of a part", with(three, 2, 1, 0, 0, 0), api.ErrShort},
		{"too few bytes of a part", with(three, 2, 1, 0, 0, 0, 2, 0, 0), api.ErrShort},
		{"too few bytes of a part of 64 bits", join(three, []byte{2, 64, 0, 0, 0}, make([]byte, 255)), api.ErrShort},
		{"no bytes of a second part", with(more, 2, 0, 1, 0, 0), api.ErrShort},
		{"no second block", with(next, 2, 0, 0, 0, 0), api.ErrShort},
		{"no width of a second block", with(next, 2, 0, 0, 0, 0, 2), api.ErrShort},
		// Bytes that no writer lays: told when all is read, so ends that come too early are ahead of them.
		{"a width that is too great", with(three, 2, 1, 0, 0, 0, 0, 0, 0, 0), api.ErrForm},
		{"a width that is too great, and an early end", with(three, 2, 1, 0, 0, 0, 0, 0, 0), api.ErrShort},
		{"a width one too great", with(three, 2, 2, 0, 0, 0, 4, 0, 0, 0, 0, 0, 0, 0), api.ErrForm},
		{"a least that is not there", with(three, 2, 1, 0, 0, 0, 3, 0, 0, 0), api.ErrForm},
		{"a least that is not there, of a wider part", with(three, 2, 2, 0, 0, 0, 6, 0, 0, 0, 0, 0, 0, 0), api.ErrForm},
		{"a least that is not there, ahead of a second block that ends too early", with(next, 2, 1, 0, 0, 0, 255, 255, 255, 255, 2, 0, 0, 0), api.ErrShort},
		{"a difference that is not there, and not 0", with(three, 2, 1, 0, 0, 0, 6, 0, 0, 0), api.ErrForm},
		{"a last one that is not there, and not 0", with(three, 2, 1, 0, 0, 0, 2, 0, 0, 128), api.ErrForm},
		{"a difference that is not there, in a second part", with(more, 0, 1, 1, 0, 0, 254, 255, 255, 255, 3, 0, 0, 0), api.ErrForm},
		{"differences that go round, from a least that is not the least", join(three, nines(255), []byte{1, 64, 0, 0, 0}, []byte{0, 0, 0, 0, 0, 0, 0, 128}, []byte{1, 0, 0, 0, 0, 0, 0, 128}, make([]byte, 240)), api.ErrForm},
		{"a difference above 2^63 - 1", join(three, []byte{254}, nines(255)[:8], []byte{1, 1, 0, 0, 0, 2, 0, 0, 0}), api.ErrForm},
	} {
		t.Run(x.what, func(t *testing.T) {
			bothRefused(t, x.b, x.want)
			if want := beginOf(x.b); want.e != x.want {
				t.Errorf("the other telling is %v, not %v", want.e, x.want)
			}
		})
	}
	// What is like these, and right.
	wantRead(t, with(three, 2, 1, 0, 0, 0, 2, 0, 0, 0), []int64{0, 1, 3})
	wantRead(t, with(next, 2, 0, 0, 0, 0, 1, 0, 0, 0, 0), append(listOf(0, times(128, 1)...), 127))
}

// P13.2: each width that a part may not have, in each place.
func TestBeginOfEachWidth(t *testing.T) {
	for differences := 1; differences <= 128; differences++ {
		for place := range 4 {
			for width := range 256 {
				b := join(headOf(differences+1), []byte{0, 0, 0, 0, 0, 0})
				b[len(b)-4+place] = byte(width)
				want := api.ErrShort
				if width > 64 || width > 0 && 32*place >= differences {
					want = api.ErrForm
				}
				if width == 0 {
					wantRead(t, b, times(differences+1, 0))
				} else if l, size, e := delta.Begin(b); l != nil || size != 0 || e != want {
					t.Errorf("%x: %v %d %v, not %v", b, l, size, e, want)
				}
			}
		}
	}
}

// P13.2: of the differences that are not there each bit must be 0.
func TestBeginOfBitsTooMany(t *testing.T) {
	for _, width := range []int{1, 2, 3, 7, 8, 9, 63, 64} {
		for _, differences := range []int{2, 3, 31, 34, 63, 127} {
			d := times(differences, math.MinInt64)
			d[differences-1] = math.MinInt64 + int64(uint64(math.MaxUint64)>>(64-width))
			b := told(listOf(1, d...))
			end := len(b) - 4*width
			wantRead(t, b, listOf(1, d...))
			for bit := ((differences-1)%32 + 1) * width; bit < 32*width; bit++ {
				wrong := slices.Clone(b)
				wrong[end+bit/8] |= 1 << (bit % 8)
				bothRefused(t, wrong, api.ErrForm)
			}
		}
	}
}

// P13.2: ErrArg, then Begin's errors, then another count, then bytes behind.
func TestReadByCounts(t *testing.T) {
	for _, l := range [][]int64{nil, {5}, {1, 2}, {7, 5, 3, 1, 2, 3, 4, 5}, listOf(3, times(200, 4)...), times(api.MaxCount, 9)} {
		b := told(l)
		wantRead(t, b, l)
		for _, count := range []int{0, 1, 2, 3, 7, 8, 9, 200, 201, 202, len(l) + 1, api.MaxCount - 1, api.MaxCount} {
			if count != len(l) && count <= api.MaxCount {
				readRefused(t, b, count, api.ErrForm)
				readRefused(t, append(b, 0), count, api.ErrForm)
				readRefused(t, b[:len(b)-1], count, api.ErrShort)
			}
		}
		for _, count := range noCounts() {
			readRefused(t, b, count, api.ErrArg)
			readRefused(t, append(b, 0), count, api.ErrArg)
			readRefused(t, b[:len(b)-1], count, api.ErrArg)
			readRefused(t, []byte{1}, count, api.ErrArg)
			readRefused(t, nil, count, api.ErrArg)
		}
	}
}

// P13.2: no bound is set on what stands behind.
func TestReadOfManyBytes(t *testing.T) {
	b := told([]int64{1, 5, 2})
	for _, behind := range []int{api.MaxBytes - len(b), api.MaxBytes - len(b) + 1, 2 * api.MaxBytes} {
		more := join(b, make([]byte, behind))
		if l, size, e := delta.Begin(more); !slices.Equal(l, []int64{1, 5, 2}) || size != len(b) || e != api.OK {
			t.Errorf("%d bytes behind: %v %d %v", behind, l, size, e)
		}
		readRefused(t, more, 3, api.ErrExtra)
		readRefused(t, more, 2, api.ErrForm)
	}
}

// P13.3: each shorter beginning ends too early.
func TestBeginOfEachCut(t *testing.T) {
	r := rand.New(rand.NewPCG(7, 13))
	lists := [][]int64{nil, {0}, {math.MinInt64}, {math.MinInt64, math.MaxInt64}, {7, 5, 3, 1, 2, 3, 4, 5}}
	for range 50 {
		lists = append(lists, randomList(r, 270))
	}
	for _, l := range lists {
		b := told(l)
		for n := range b {
			if l, size, e := delta.Begin(b[:n]); l != nil || size != 0 || e != api.ErrShort {
				t.Errorf("Begin(%.40x (%d bytes)): %v %d %v", b, n, front(l), size, e)
			}
			readRefused(t, b[:n], len(l), api.ErrShort)
		}
	}
}

// P13.2, P13.3: bytes of lists, and such as are nearly. Whatever Begin tells, Write of it are the bytes that it took.
func TestBeginOfAnyBytes(t *testing.T) {
	r := rand.New(rand.NewPCG(8, 13))
	seen := map[api.Errno]int{}
	for range 4000 {
		b := randomBytes(r)
		want := wantAnswer(t, b, r.IntN(11)/10)
		seen[want.e]++
		if l, size, e := delta.Begin(b); e == api.OK {
			if again, e := delta.Write(l...); !slices.Equal(again, b[:size]) || e != api.OK {
				t.Fatalf("%x: %v: %x %v", b[:size], l, again, e)
			}
		}
	}
	for _, e := range []api.Errno{api.OK, api.ErrShort, api.ErrForm} {
		if seen[e] < 400 {
			t.Errorf("%v: only %d times", e, seen[e])
		}
	}
}

// P13.2: any bytes behind the beginning of a list; any bytes at all.
func TestBeginOfAnyNumbers(t *testing.T) {
	r := rand.New(rand.NewPCG(9, 13))
	for range 200000 {
		b := []byte{128, 1, 4, byte(r.IntN(5)), 0}[:r.IntN(6)]
		for range r.IntN(14) {
			b = append(b, byte(r.Uint64()>>r.IntN(64)))
		}
		wantAnswer(t, b, r.IntN(4)-1)
	}
}

// P13.2: all small blocks of two differences and a least from a few, of which just one form each is right.
func TestBeginOfAllSmallBlocks(t *testing.T) {
	forms := map[[3]int64]int{}
	for least := range byte(8) {
		for width := range byte(3) {
			for bits := range 1 << (2 * width) {
				b := join([]byte{128, 1, 4, 3, 0, least, width, 0, 0, 0}, make([]byte, 4*width))
				if width > 0 {
					b[10] = byte(bits)
				}
				if want := wantAnswer(t, b, 0); want.e == api.OK {
					l, _, _ := delta.Begin(b)
					forms[[3]int64(l)]++
				}
			}
		}
	}
	for l, n := range forms {
		if n != 1 {
			t.Errorf("%v: %d forms", l, n)
		}
	}
	if len(forms) != 8*(1+2+4) {
		t.Errorf("%d lists", len(forms))
	}
}

// P13.2: bytes that are handed in are not changed, and not kept; each answer is new memory.
func TestBytesAreNotKept(t *testing.T) {
	r := rand.New(rand.NewPCG(10, 13))
	for range 100 {
		l := randomList(r, 300)
		b := append(told(l), 77, 78)
		before := slices.Clone(b)
		whole := b[:len(b)-2]
		begun, size, e := delta.Begin(whole)
		read, f := delta.Read(whole, len(l))
		other, _, _ := delta.Begin(whole)
		if !slices.Equal(b, before) {
			t.Errorf("%x, not %x", b, before)
		}
		clear(b)
		clear(other[:cap(other)])
		if !slices.Equal(begun, l) || size != len(whole) || e != api.OK || !slices.Equal(read, l) || f != api.OK {
			t.Errorf("%v %d %v, %v %v, not %v", begun, size, e, read, f, l)
		}
	}
}
