package thrift_test

import (
	"bytes"
	"math/rand/v2"
	"runtime"
	"slices"
	"strings"
	"testing"

	"marquetry/api"
	"marquetry/thrift"
)

// P3.3
func TestRead(t *testing.T) {
	for _, x := range laid() {
		want := unhex(x.hex)
		for _, behind := range []string{"", "\x00", "\x09", "\xff\xff\xff", "\x15\x02"} {
			v, n, e := thrift.Read(append(slices.Clone(want), behind...))
			if !thrift.Same(v, x.v) || n != len(want) || e != api.OK {
				t.Errorf("Read(%.60s, behind it %x): %v %d %v", x.hex, behind, short(v), n, e)
			}
		}
	}
}

// inner is bytes in so many structures.
func inner(deep int, hex string) string { return strings.Repeat("1c", deep-1) + hex }

// shortOnes are beginnings of structures' bytes.
func shortOnes() []string {
	return []string{
		"", "15", "15 80", "11 01", "25 02 15 02",
		"11", "12", "01", "02", "05", "0c", "01 20", "01 80", "05 a0",
		"13", "14", "16", "17", "18", "19", "1b", "1c", "f1",
		// Numbers: as long as another byte may follow.
		"14 80 80", "14 ff ff", "15 80 80 80 80", "15 ff ff ff ff", "16 80 80 80 80 80 80 80 80 80", "16 ff ff ff ff ff ff ff ff ff",
		"14 ff ff 03", "15 ff ff ff ff 0f", "16 ff ff ff ff ff ff ff ff ff 01",
		"17 01 02 03 04 05 06 07", "17 01 02 03 04 05 06 07 08",
		// Lengths.
		"18 01", "18 80", "18 ff ff", "18 80 80", "18 80 80 40", "18 ff ff 3f", "18 02 61", "18 01 61",
		"19 05", "19 f5", "19 f5 0f", "19 f5 80", "19 f5 8e", "19 f5 ff ff", "19 f5 80 80 04", "19 f5 ff ff 03", "19 fc 0f 00",
		"19 15", "19 25 02", "19 1c", "19 19 0c", "19 11 01", "19 01",
		"1b 00", "1b 01", "1b 80", "1b ff ff", "1b 80 80 04", "1b ff ff 03", "1b 01 55", "1b 01 cc 00", "1b 01 58 02 01", "1b 01 9b 05 00",
		// IDs: the first and the last that may follow.
		"05 20", "05 fe ff 03", "05 fe ff", "05 fe", "05 80 80",
		"05 e0 ff 03 02 f5", "05 de ff 03 02 05", "05 de ff 03 02 05 fe", "05 de ff 03 02 05 fe ff", "05 de ff 03 02 05 fe ff 03",
		"05 fe ff 03 02", "05 fc ff 03 02 11",
		"05 80 f4 03 02 05 a0 f4 03", "05 80 f4 03 02 05 a0 f4", "05 80 f4 03 02 05 82 f5", "05 80 f4 03 02 05 80",
		"05 d0 ff 03 02 05 f0 ff", "05 d0 ff 03 02 05 f0",
		// Depth: what may still be nested, or is empty, or is no list, map, structure.
		inner(32, ""), inner(32, "15"), inner(31, "19"), inner(31, "1b"), inner(31, "09"),
		inner(31, "19 0c"), inner(31, "19 0b"), inner(31, "19 09"), inner(31, "19 f5"), inner(31, "1b 01"), inner(31, "1b 01 58"),
		inner(30, "19 1c"), inner(30, "19 19"), inner(30, "19 1b"), inner(30, "1b 01 c9"), inner(30, "19 fc 0f"),
		inner(30, "19 29 0c"), inner(30, "19 2b 00"),
		// Behind what was nested there is as much room as ahead of it.
		inner(31, "1c 00 1c"), inner(31, "19 0c 1c"), inner(31, "1b 00 1b"), inner(29, "19 2c 00 1c"), inner(29, "1b 01 cc 1c 00 00"),
	}
}

// wrongOnes are no such beginnings, by their last byte.
func wrongOnes() []string {
	return []string{
		"15 80 00", "1d", "01 02", "19 2d",
		// Kinds.
		"10", "20", "f0", "1a", "1e", "1f", "0a", "0d", "0e", "0f",
		"19 00", "19 10", "19 f0", "19 02", "19 12", "19 f2", "19 0a", "19 1a", "19 0d", "19 1e", "19 ff",
		"1b 01 00", "1b 01 05", "1b 01 50", "1b 01 25", "1b 01 52", "1b 01 a5", "1b 01 5a", "1b 01 d5", "1b 01 5f",
		"19 11 00", "19 11 03", "19 11 ff", "19 21 01 00", "1b 01 11 00", "1b 01 11 01 03",
		// Numbers that are too long, or too great.
		"14 80 00", "14 81 00", "14 80 80 00", "14 ff ff 04", "14 ff ff 80", "14 80 80 80", "14 80 80 83", "14 ff ff 43",
		"15 80 80 80 80 00", "15 80 80 80 80 10", "15 ff ff ff ff 8f", "15 80 80 80 80 80", "15 ff ff ff ff 7f", "15 80 80 80 80 81",
		"16 80 00", "16 80 80 80 80 80 80 80 80 80 00", "16 80 80 80 80 80 80 80 80 80 02", "16 80 80 80 80 80 80 80 80 80 80",
		"16 80 80 80 80 80 80 80 80 80 81", "16 ff ff ff ff ff ff ff ff ff 7f", "16 ff ff ff ff ff ff ff ff ff 03",
		// Lengths.
		"18 80 00", "18 81 80 40", "18 80 81 40", "18 80 80 41", "18 80 80 80", "18 80 80 c0", "18 ff ff ff", "18 80 80 00",
		"19 f5 00", "19 f5 01", "19 f5 0e", "19 f5 80 00", "19 f5 8f 00", "19 f5 81 80 04", "19 f5 80 80 05", "19 f5 80 80 84", "19 f5 80 80 00", "19 f5 80 80 80",
		"1b 80 00", "1b 81 00", "1b 81 80 04", "1b 80 80 05", "1b 80 80 84", "1b 80 80 80",
		// IDs: below 0, near enough for the short form, too great, not rising.
		"05 00", "05 01", "05 1e", "05 1f", "05 21", "05 81", "05 ff", "05 a1", "05 80 00", "05 9e 00", "05 80 80 00",
		"05 80 80 04", "05 80 80 84", "05 80 80 80", "05 fe ff 04", "05 fe ff 83",
		"15 02 05 20", "15 02 05 02", "15 02 05 00", "15 02 05 03",
		"05 20 02 05 20", "05 20 02 05 22", "05 20 02 05 3e",
		"05 e2 ff 03 02 f5", "05 e2 ff 03 02 f1", "05 fe ff 03 02 11", "05 fe ff 03 02 15", "05 fe ff 03 02 f2", "05 fc ff 03 02 21",
		"05 fe ff 03 02 05", "05 e0 ff 03 02 05", "05 e0 ff 03 02 01",
		"05 de ff 03 02 05 fc", "05 de ff 03 02 05 80", "05 de ff 03 02 05 fe 80", "05 de ff 03 02 05 fe 7f", "05 de ff 03 02 05 fe ff 02",
		"05 80 f4 03 02 05 9e f4", "05 80 f4 03 02 05 80 f4", "05 80 f4 03 02 05 80 80", "05 80 f4 03 02 05 a0 74",
		// Depth: a list, map, structure in 32 others, as soon as it is told.
		inner(32, "1c"), inner(32, "19"), inner(32, "1b"), inner(32, "0c"), inner(32, "09"), inner(32, "0b"),
		inner(31, "19 1c"), inner(31, "19 19"), inner(31, "19 1b"), inner(31, "19 fc"), inner(31, "19 f9"), inner(31, "19 fb"), inner(31, "19 ec"),
		inner(31, "1b 01 c5"), inner(31, "1b 01 5c"), inner(31, "1b 01 95"), inner(31, "1b 01 5b"), inner(31, "1b 80 01 cc"),
		inner(30, "19 1c 1c"), inner(30, "19 19 1c"), inner(30, "19 1b 01 5c"), inner(30, "1b 01 c9 1c"), inner(30, "1b 01 c9 00 1c"),
		inner(31, "1c 00 1c 1c"), inner(29, "19 2c 00 1c 1c"), inner(30, "19 2c 00 1c"), inner(29, "1b 01 cc 1c 00 00 1c 1c"),
	}
}

// P3.3
func TestReadOfWhatIsNone(t *testing.T) {
	for want, l := range map[api.Errno][]string{api.ErrShort: shortOnes(), api.ErrForm: wrongOnes()} {
		for _, hex := range l {
			v, n, e := thrift.Read(unhex(hex))
			if !thrift.Same(v, api.Thrift{}) || n != 0 || e != want {
				t.Errorf("Read(%s): %v %d %v, not %v", hex, short(v), n, e, want)
			}
		}
	}
}

// P3.3: what is wrong by its last byte was a beginning without it, and is wrong whatever stands behind.
func TestWrongOnesAreToldAtOnce(t *testing.T) {
	for _, hex := range wrongOnes() {
		b := unhex(hex)
		if _, _, e := thrift.Read(b[:len(b)-1]); e != api.ErrShort {
			t.Errorf("Read(%s) without its last byte: %v", hex, e)
		}
		for _, behind := range []string{"\x00", "\x01", "\x02\x00", "\xff", strings.Repeat("\x00", 50)} {
			if _, _, e := thrift.Read(append(slices.Clone(b), behind...)); e != api.ErrForm {
				t.Errorf("Read(%s, behind it %x): %v", hex, behind, e)
			}
		}
	}
}

// ends tells whether some bytes behind make a structure's bytes of b.
func ends(b []byte) bool {
	for i := range 50 {
		if _, _, e := thrift.Read(slices.Concat(b, make([]byte, api.MaxBytes+100))); e == api.OK {
			return true
		}
		l := tries(i)
		at := slices.IndexFunc(l, func(c byte) bool {
			_, _, e := thrift.Read(append(slices.Clone(b), c))
			return e != api.ErrForm
		})
		if at < 0 {
			return false
		}
		b = append(slices.Clone(b), l[at])
	}
	return false
}

// tries are all bytes; ahead of them, at first, one that tells kinds of which zeros are values.
func tries(i int) []byte {
	var l []byte
	if i < 3 {
		l = append(l, 0x33)
	}
	for c := range 256 {
		l = append(l, byte(c))
	}
	return l
}

// P3.3: what is said to be a beginning is one.
func TestShortOnesGoOn(t *testing.T) {
	for _, hex := range shortOnes() {
		if !ends(unhex(hex)) {
			t.Errorf("nothing ends %s", hex)
		}
	}
}

// agree holds the answer for bytes against those for the same with one byte more.
func agree(t *testing.T, b []byte) {
	t.Helper()
	v, n, e := thrift.Read(b)
	short, wrong := 0, 0
	for c := range 256 {
		v2, n2, e2 := thrift.Read(append(slices.Clone(b), byte(c)))
		switch {
		case e2 == api.ErrShort:
			short++
		case e2 == api.ErrForm:
			wrong++
		case e == api.OK && (n2 != n || !thrift.Same(v, v2)):
			t.Fatalf("% x is told with %x behind as %v, %d", b, c, v2, n2)
		}
	}
	switch {
	case e == api.OK && short+wrong > 0:
		t.Fatalf("% x is a structure, and not with a byte behind", b)
	case e == api.ErrForm && wrong < 256:
		t.Fatalf("% x is wrong, and not so with a byte behind", b)
	case e == api.ErrShort && wrong == 256:
		t.Fatalf("% x is a beginning, but no byte may follow", b)
	}
}

// P3.3
func TestReadAgreesWithItself(t *testing.T) {
	agree(t, nil)
	for c := range 256 {
		agree(t, []byte{byte(c)})
	}
	for _, hex := range slices.Concat(shortOnes(), wrongOnes()) {
		agree(t, unhex(hex))
	}
	r := rand.New(rand.NewPCG(1, 3))
	for range 400 {
		b := spoiled(r)
		for i := range min(len(b), 60) {
			if r.IntN(20) == 0 {
				agree(t, b[:i])
			}
		}
	}
}

// P3.3: each number near a bound, in bytes and a byte less.
func TestReadOfIDs(t *testing.T) {
	for _, ahead := range []int{0, 1, 15, 16, 100, 8000, 16383, 32000, 32735, 32751, 32752, 32766, 32767} {
		front := []byte{}
		if ahead > 0 {
			front, _ = thrift.Write(withIDs(structure(num(tBool, 1)), ahead))
			front = front[:len(front)-1]
		}
		agree(t, append(slices.Clone(front), 5))
		for c := range 256 {
			b := append(slices.Clone(front), 5, byte(c))
			if _, _, e := thrift.Read(b); e == api.ErrShort && (c < 128 || c%8 == 6 || c > 250) {
				agree(t, b)
			}
		}
		for id := ahead - 1; id < ahead+40; id++ {
			v, n, e := thrift.Read(slices.Concat(front, []byte{1}, zigzag(id), []byte{0}))
			if good := id >= ahead+16 && id <= 32767; good != (e == api.OK) || !good && e != api.ErrForm {
				t.Errorf("%d behind %d: %v %d %v", id, ahead, v, n, e)
			}
		}
	}
}

func zigzag(n int) []byte {
	u := uint64(n) << 1
	if n < 0 {
		u = uint64(-2*n - 1)
	}
	var b []byte
	for ; u >= 128; u >>= 7 {
		b = append(b, byte(u)|128)
	}
	return append(b, byte(u))
}

// spoiled are the bytes of a random structure, some of them changed.
func spoiled(r *rand.Rand) []byte {
	b, _ := thrift.Write(made(r, tStruct, 1+r.IntN(5)))
	for range r.IntN(3) {
		b[r.IntN(len(b))] = byte(r.IntN(256))
	}
	return b
}

// P3.5
func TestThereAndBack(t *testing.T) {
	r := rand.New(rand.NewPCG(2, 3))
	for range 3000 {
		v := made(r, tStruct, 1+r.IntN(6))
		b, e := thrift.Write(v)
		if e != api.OK {
			t.Fatalf("Write(%v): %v", v, e)
		}
		got, n, e := thrift.Read(append(slices.Clone(b), byte(r.IntN(256)), byte(r.IntN(256))))
		if !thrift.Same(got, v) || n != len(b) || e != api.OK {
			t.Fatalf("Read(% x): %v %d %v, not %v", b, got, n, e, v)
		}
	}
}

// P3.5
func TestThereAndBackOfAllDepths(t *testing.T) {
	for _, by := range nestings() {
		for deep := 1; deep <= 32; deep++ {
			v := nest(deep, num(tInt32, 1), by...)
			b, e := thrift.Write(v)
			if e != api.OK {
				t.Fatalf("%v %d: %v", by, deep, e)
			}
			if got, n, e := thrift.Read(b); !thrift.Same(got, v) || n != len(b) || e != api.OK {
				t.Errorf("%v %d: %d %v", by, deep, n, e)
			}
		}
	}
}

// P3.5
func TestShorterBeginningsAreShort(t *testing.T) {
	r := rand.New(rand.NewPCG(3, 3))
	l := laid()
	for range 300 {
		l = append(l, row{v: made(r, tStruct, 1+r.IntN(4))})
	}
	for _, by := range nestings() {
		l = append(l, row{v: nest(32, text("abc"), by...)})
	}
	for _, x := range l {
		b, _ := thrift.Write(x.v)
		for i := range b {
			// Of much, its front and its end, and some of what is between.
			if i > 300 && i < len(b)-20 && i%50000 != 0 {
				continue
			}
			if v, n, e := thrift.Read(b[:i]); !thrift.Same(v, api.Thrift{}) || n != 0 || e != api.ErrShort {
				t.Fatalf("%d of %d bytes of %v: %v", i, len(b), short(x.v), e)
			}
		}
	}
}

// P3.5: what is read at all is written so.
func TestWhatIsReadIsWrittenSo(t *testing.T) {
	r := rand.New(rand.NewPCG(4, 3))
	read := 0
	for range 30000 {
		b := spoiled(r)
		v, n, e := thrift.Read(b)
		if e != api.OK {
			if !thrift.Same(v, api.Thrift{}) || n != 0 || e != api.ErrShort && e != api.ErrForm {
				t.Fatalf("Read(% x): %v %d %v", b, v, n, e)
			}
			continue
		}
		read++
		again, e := thrift.Write(v)
		if !bytes.Equal(again, b[:n]) || e != api.OK {
			t.Fatalf("Read(% x): %v, which is % x %v", b, v, again, e)
		}
	}
	if read < 10000 {
		t.Errorf("only %d were read", read)
	}
}

// P3.5
func TestUnlikeStructuresHaveUnlikeBytes(t *testing.T) {
	r := rand.New(rand.NewPCG(5, 3))
	var l []api.Thrift
	for _, x := range unlike() {
		l = append(l, x, structure(x))
	}
	for range 300 {
		l = append(l, made(r, tStruct, 1+r.IntN(3)))
	}
	var all [][]byte
	l = slices.DeleteFunc(l, func(v api.Thrift) bool {
		b, e := thrift.Write(v)
		if e == api.OK {
			all = append(all, b)
		}
		return e != api.OK
	})
	for i, a := range all {
		for j, b := range all {
			if bytes.HasPrefix(a, b) && !thrift.Same(l[i], l[j]) {
				t.Fatalf("%v and %v: % x, % x", l[i], l[j], a, b)
			}
		}
	}
}

// P3.3: lists that are said to be long make no more than there are bytes for.
func TestReadMakesNoMoreThanIsThere(t *testing.T) {
	b := unhex("19" + strings.Repeat("f9 80 80 04", 30) + "f1 80 80 04")
	var before, after runtime.MemStats
	runtime.ReadMemStats(&before)
	_, _, e := thrift.Read(b)
	runtime.ReadMemStats(&after)
	if made := after.TotalAlloc - before.TotalAlloc; made > 1<<20 || e != api.ErrShort {
		t.Errorf("%d bytes of memory, %v", made, e)
	}
}

// P3.3: bytes are not changed and not kept; answers share nothing.
func TestReadKeepsNothing(t *testing.T) {
	room := unhex("1c 18 02 61 62 00 19 28 01 61 01 62 00 77 78")
	before := slices.Clone(room)
	want := structure(structure(text("ab")), list(tBytes, text("a"), text("b")))
	a, _, _ := thrift.Read(room[:13])
	b, _, e := thrift.Read(room[:13])
	if !slices.Equal(room, before) || e != api.OK {
		t.Errorf("% x %v", room, e)
	}
	a.List[0].List[0].Text, a.List[0].IDs[0], a.IDs[0], a.List[1].List[1].Int = "", 9, 9, 9
	clear(room)
	if !thrift.Same(b, want) {
		t.Errorf("%v", b)
	}
}
