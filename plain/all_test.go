package plain_test

import (
	"iter"
	"math/rand/v2"
	"slices"
	"testing"

	"marquetry/api"
	"marquetry/datum"
	"marquetry/plain"
)

// gone is what is gone over: places and data.
func gone(all iter.Seq2[int, api.Datum]) ([]int, []api.Datum) {
	var places []int
	var data []api.Datum
	for at, d := range all {
		places, data = append(places, at), append(data, d)
	}
	return places, data
}

func wantAll(t *testing.T, b []byte, x api.Type, places []int, data []api.Datum) {
	t.Helper()
	gotPlaces, gotData := gone(plain.All(b, x))
	if !slices.Equal(gotPlaces, places) || !slices.Equal(gotData, data) {
		t.Errorf("All(%.40x (%d bytes), %v): %.100v %s, not %.100v %s", b, len(b), x, gotPlaces, tell(gotData), places, tell(data))
	}
}

// placesOf are the places of values: of truths their numbers.
func placesOf(x api.Type, data []api.Datum) []int {
	var l []int
	for i := range data {
		if x == truth {
			l = append(l, i)
		} else {
			l = append(l, len(laid(x, data[:i])))
		}
	}
	return l
}

// P10.2
func TestAll(t *testing.T) {
	a, none := datum.Bytes("a"), datum.Bytes("")
	for _, x := range []struct {
		b      string
		t      api.Type
		places []int
		data   []api.Datum
	}{
		{"\x01\x00\x00\x00a\x00\x00\x00\x00\x07", text, []int{0, 5}, []api.Datum{a, none}},
		{"\x01\x00\x00\x00a\x00\x00\x00\x00", text, []int{0, 5}, []api.Datum{a, none}},
		{"\x01\x00\x00\x00a\x02\x00\x00\x00x", text, []int{0}, []api.Datum{a}},
		{"\x01\x00\x00\x00a\xff\xff\xff\xffx", text, []int{0}, []api.Datum{a}},
		{"\x02\x00\x00\x00a", text, nil, nil},
		{"\x00\x00\x00", text, nil, nil},
		{"\x00\x00\x00\x00", text, []int{0}, []api.Datum{none}},
		{"", text, nil, nil},
		{"\x01\x00\x00\x00\xff\xff\xff\xff", whole4, []int{0, 4}, []api.Datum{datum.Int32(1), datum.Int32(-1)}},
		{"\x01\x00\x00\x00\xff\xff\xff", whole4, []int{0}, []api.Datum{datum.Int32(1)}},
		{"\x01\x00\x00", whole4, nil, nil},
		{"\xff\xff\xff\xff\xff\xff\xff\xff\x01", whole8, []int{0}, []api.Datum{datum.Int64(-1)}},
		{"\x00\x00\x80\x3f\x01\x00\x80\xff", real4, []int{0, 4}, []api.Datum{datum.Float(1), {Kind: 4, Int: 0xff800001}}},
		{"\x01\x00\x00\x00\x00\x00\xf0\xff\x00\x00\x00\x00\x00\x00\xf0\x3f\x00\x00\x00\x00\x00\x00\x00", real8, []int{0, 8}, []api.Datum{{Kind: 5, Int: -0xfffffffffffff}, datum.Double(1)}},
		{"abcde", fixed(2), []int{0, 2}, []api.Datum{datum.Fixed("ab"), datum.Fixed("cd")}},
		{"abc", fixed(3), []int{0}, []api.Datum{datum.Fixed("abc")}},
		{"abc", fixed(4), nil, nil},
		{"abc", fixed(api.MaxBytes), nil, nil},
		{"ab", fixed(1), []int{0, 1}, []api.Datum{datum.Fixed("a"), datum.Fixed("b")}},
		{"", truth, nil, nil},
	} {
		wantAll(t, []byte(x.b), x.t, x.places, x.data)
	}
}

// P10.2: all bits are truths, those of the last byte too.
func TestAllTruths(t *testing.T) {
	b := []byte{5, 128, 0, 255}
	var places []int
	var data []api.Datum
	for i := range 32 {
		places = append(places, i)
		data = append(data, datum.Bool(b[i/8]>>(i%8)&1 == 1))
	}
	wantAll(t, b, truth, places, data)
}

// P10.2: nothing of a type that may not be, of too many bytes.
func TestAllOfNothing(t *testing.T) {
	for _, b := range [][]byte{nil, {0}, make([]byte, 16), make([]byte, api.MaxBytes+1)} {
		for _, x := range noTypes() {
			wantAll(t, b, x, nil, nil)
		}
	}
	for _, x := range append(someTypes(), fixed(api.MaxBytes)) {
		wantAll(t, nil, x, nil, nil)
		wantAll(t, make([]byte, api.MaxBytes+1), x, nil, nil)
	}
}

// P10.2: of as many bytes as may be all values, be they more than may be read.
func TestAllOfManyBytes(t *testing.T) {
	b := make([]byte, api.MaxBytes)
	for _, x := range []struct {
		t           api.Type
		count, last int
	}{
		{truth, 8 * api.MaxBytes, 8*api.MaxBytes - 1},
		{whole4, api.MaxBytes / 4, api.MaxBytes - 4},
		{whole8, api.MaxBytes / 8, api.MaxBytes - 8},
		{real4, api.MaxBytes / 4, api.MaxBytes - 4},
		{real8, api.MaxBytes / 8, api.MaxBytes - 8},
		{text, api.MaxBytes / 4, api.MaxBytes - 4},
		{fixed(1), api.MaxBytes, api.MaxBytes - 1},
		{fixed(3), api.MaxBytes / 3, api.MaxBytes - 4},
		{fixed(api.MaxBytes - 1), 1, 0},
		{fixed(api.MaxBytes), 1, 0},
	} {
		count, last := 0, 0
		for at := range plain.All(b, x.t) {
			count, last = count+1, at
		}
		if count != x.count || last != x.last {
			t.Errorf("%v: %d, the last at %d", x.t, count, last)
		}
	}
}

// P10.2, P10.3: what is written is gone over, and what else stands behind that is not whole.
func TestAllOfWhatIsWritten(t *testing.T) {
	r := rand.New(rand.NewPCG(7, 10))
	for range 200 {
		for _, x := range someTypes() {
			data := randomData(r, x, 8*r.IntN(4))
			b := laid(x, data)
			wantAll(t, b, x, placesOf(x, data), data)
			if x != truth && x != fixed(1) {
				wantAll(t, append(b, 1), x, placesOf(x, data), data)
			}
		}
	}
}

// P10.2: it may be left at any time, and gone through again, one time within the other too.
func TestAllIsLeftAndGoneThroughAgain(t *testing.T) {
	r := rand.New(rand.NewPCG(8, 10))
	for _, x := range someTypes() {
		data := randomData(r, x, 16)
		places := placesOf(x, data)
		all := plain.All(laid(x, data), x)
		for left := range data {
			seen := 0
			for at, d := range all {
				if at != places[seen] || d != data[seen] {
					t.Fatalf("%v: %d %v, not %d %v", x, at, d, places[seen], data[seen])
				}
				_, within := gone(all)
				if !slices.Equal(within, data) {
					t.Fatalf("%v: %s, not %s", x, tell(within), tell(data))
				}
				if seen == left {
					break
				}
				seen++
			}
			if seen != left {
				t.Fatalf("%v: %d, not %d", x, seen, left)
			}
		}
		gotPlaces, got := gone(all)
		if !slices.Equal(gotPlaces, places) || !slices.Equal(got, data) {
			t.Errorf("%v: %v %s, not %v %s", x, gotPlaces, tell(got), places, tell(data))
		}
	}
}

// P10.2: bytes that are handed in are not changed, and not kept.
func TestAllDoesNotKeep(t *testing.T) {
	r := rand.New(rand.NewPCG(9, 10))
	for _, x := range someTypes() {
		data := randomData(r, x, 8)
		b := append(laid(x, data), 77, 78)
		before := slices.Clone(b)
		all := plain.All(b[:len(b)-2], x)
		gone(all)
		if !slices.Equal(b, before) {
			t.Errorf("%v: %x, not %x", x, b, before)
		}
		clear(b)
		if _, got := gone(all); !slices.Equal(got, data) {
			t.Errorf("%v: %s, not %s", x, tell(got), tell(data))
		}
	}
}
