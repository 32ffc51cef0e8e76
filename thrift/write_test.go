package thrift_test

import (
	"encoding/hex"
	"math"
	"slices"
	"strings"
	"testing"

	"marquetry/api"
	"marquetry/thrift"
)

// unhex tells bytes that are written to the base 16, with blanks between.
func unhex(s string) []byte {
	b, err := hex.DecodeString(strings.ReplaceAll(s, " ", ""))
	if err != nil {
		panic(err)
	}
	return b
}

func double(bits uint64) api.Thrift { return num(tDouble, int64(bits)) }

type row struct {
	hex string
	v   api.Thrift
}

// examples are those of the chapter.
func examples() []row {
	one := num(tInt32, 1)
	return []row{
		{"00", structure()},
		{"15 02 11 08 28 02 61 62 00", withIDs(structure(one, num(tBool, 1), text("ab")), 1, 2, 20)},
		{"19 25 02 01 2b 01 86 01 6b 04 1c 00 00", withIDs(structure(list(tInt32, one, num(tInt32, -1)),
			pairs(tBytes, tInt64, text("k"), num(tInt64, 2)), structure()), 1, 3, 4)},
	}
}

// truths stand in their fields' kinds, but in lists and maps by bytes.
func truths() []row {
	yes, no := num(tBool, 1), num(tBool, 0)
	return []row{
		{"11 00", structure(yes)},
		{"12 00", structure(no)},
		{"01 20 02 40 00", withIDs(structure(yes, no), 16, 32)},
		{"12 11 f1 f2 00", withIDs(structure(no, yes, yes, no), 1, 2, 17, 32)},
		{"19 21 01 02 00", structure(list(tBool, yes, no))},
		{"1b 01 11 02 01 00", structure(pairs(tBool, tBool, no, yes))},
	}
}

// numbers are at the edges of their bytes and of their bits.
func numbers() []row {
	return []row{
		{"13 00 13 7f 13 80 13 ff 00", structure(num(tByte, 0), num(tByte, 127), num(tByte, -128), num(tByte, -1))},
		{"14 00 14 01 14 02 14 7e 00", structure(num(tInt16, 0), num(tInt16, -1), num(tInt16, 1), num(tInt16, 63))},
		{"14 7f 14 80 01 14 81 01 00", structure(num(tInt16, -64), num(tInt16, 64), num(tInt16, -65))},
		{"14 fe ff 03 14 ff ff 03 00", structure(num(tInt16, math.MaxInt16), num(tInt16, math.MinInt16))},
		{"15 fe ff ff ff 0f 15 ff ff ff ff 0f 00", structure(num(tInt32, math.MaxInt32), num(tInt32, math.MinInt32))},
		{"16 fe ff ff ff ff ff ff ff ff 01 00", structure(num(tInt64, math.MaxInt64))},
		{"16 ff ff ff ff ff ff ff ff ff 01 00", structure(num(tInt64, math.MinInt64))},
		{"16 80 80 80 80 80 80 80 80 80 01 00", structure(num(tInt64, 1<<62))},
		{"16 d8 04 15 d7 04 14 80 80 01 00", structure(num(tInt64, 300), num(tInt32, -300), num(tInt16, 8192))},
		{"17 01 02 03 04 05 06 07 88 00", structure(double(0x8807060504030201))},
		{"17 00 00 00 00 00 00 f0 3f 00", structure(double(math.Float64bits(1)))},
		{"17 00 00 00 00 00 00 00 80 00", structure(double(1 << 63))},
		{"17 ff ff ff ff ff ff ff ff 00", structure(double(math.MaxUint64))},
	}
}

func texts() []row {
	return []row{
		{"18 00 18 03 61 00 ff 00", structure(text(""), text("a\x00\xff"))},
		{"18 7f" + strings.Repeat("61", 127) + "00", structure(text(strings.Repeat("a", 127)))},
		{"18 80 01" + strings.Repeat("61", 128) + "00", structure(text(strings.Repeat("a", 128)))},
		{"18 80 80 40" + strings.Repeat("61", api.MaxBytes) + "00", structure(text(strings.Repeat("a", api.MaxBytes)))},
	}
}

func lists() []row {
	five := num(tByte, 5)
	return []row{
		{"19 01 19 03 19 04 19 05 00", structure(list(tBool), list(tByte), list(tInt16), list(tInt32))},
		{"19 06 19 07 19 08 19 09 00", structure(list(tInt64), list(tDouble), list(tBytes), list(tList))},
		{"19 0b 19 0c 00", structure(list(tMap), list(tStruct))},
		{"19 13 05 00", structure(list(tByte, five))},
		{"19 e3" + strings.Repeat("05", 14) + "00", structure(list(tByte, times(14, five)...))},
		{"19 f3 0f" + strings.Repeat("05", 15) + "00", structure(list(tByte, times(15, five)...))},
		{"19 f3 10" + strings.Repeat("05", 16) + "00", structure(list(tByte, times(16, five)...))},
		{"19 f3 7f" + strings.Repeat("05", 127) + "00", structure(list(tByte, times(127, five)...))},
		{"19 f3 80 01" + strings.Repeat("05", 128) + "00", structure(list(tByte, times(128, five)...))},
		{"19 f3 80 80 04" + strings.Repeat("05", 1<<16) + "00", structure(list(tByte, times(1<<16, five)...))},
		{"19 3c 00 12 00 00 00", structure(list(tStruct, structure(), structure(num(tBool, 0)), structure()))},
		{"19 29 13 05 03 00", structure(list(tList, list(tByte, five), list(tByte)))},
		{"19 2b 00 01 31 05 01 00", structure(list(tMap, pairs(0, 0), pairs(tByte, tBool, five, num(tBool, 1))))},
	}
}

func maps() []row {
	one, two := num(tInt32, 1), num(tInt32, 2)
	return []row{
		{"1b 00 00", structure(pairs(0, 0))},
		{"1b 02 58 02 00 04 01 61 00", structure(pairs(tInt32, tBytes, one, text(""), two, text("a")))},
		{"1b 01 c9 00 15 02 00", structure(pairs(tStruct, tList, structure(), list(tInt32, one)))},
		{"1b 7f 33" + strings.Repeat("01", 2*127) + "00", structure(pairs(tByte, tByte, times(2*127, num(tByte, 1))...))},
		{"1b 80 01 33" + strings.Repeat("01", 2*128) + "00", structure(pairs(tByte, tByte, times(2*128, num(tByte, 1))...))},
		{"1b 80 80 04 33" + strings.Repeat("01", 2<<16) + "00", structure(pairs(tByte, tByte, times(2<<16, num(tByte, 1))...))},
		// Keys stand in their order, alike ones too.
		{"1b 03 53 04 01 02 01 04 01 00", structure(pairs(tInt32, tByte, two, num(tByte, 1), one, num(tByte, 1), two, num(tByte, 1)))},
	}
}

// fields are 15 and 16 above the one ahead, and the last ones that may be.
func fields() []row {
	one := num(tInt32, 1)
	inner := withIDs(structure(one, structure()), 2, 20)
	return []row{
		{"f5 02 f5 02 00", withIDs(structure(one, one), 15, 30)},
		{"05 20 02 05 40 02 00", withIDs(structure(one, one), 16, 32)},
		{"15 02 05 22 02 00", withIDs(structure(one, one), 1, 17)},
		{"05 fe ff 03 02 00", withIDs(structure(one), 32767)},
		{"05 e0 ff 03 02 f5 02 00", withIDs(structure(one, one), 32752, 32767)},
		{"05 de ff 03 02 05 fe ff 03 02 00", withIDs(structure(one, one), 32751, 32767)},
		{"05 fc ff 03 02 15 02 00", withIDs(structure(one, one), 32766, 32767)},
		// Within a structure IDs are counted anew, behind it they go on.
		{"3c 25 02 0c 28 00 00 25 02 00", withIDs(structure(inner, one), 3, 5)},
	}
}

func laid() []row {
	return slices.Concat(examples(), truths(), numbers(), texts(), lists(), maps(), fields())
}

// P3.2
func TestWrite(t *testing.T) {
	for _, x := range laid() {
		b, e := thrift.Write(x.v)
		if !slices.Equal(b, unhex(x.hex)) || e != api.OK {
			t.Errorf("Write(%v): % x %v, not %.60s", short(x.v), b[:min(len(b), 30)], e, x.hex)
		}
	}
}

// P3.2: no bound is named for all bytes together.
func TestWriteOfMuch(t *testing.T) {
	v := structure(times(3, text(strings.Repeat("a", api.MaxBytes)))...)
	b, e := thrift.Write(v)
	if len(b) != 3*(api.MaxBytes+4)+1 || e != api.OK {
		t.Errorf("%d bytes, %v", len(b), e)
	}
	if got, n, e := thrift.Read(b); !thrift.Same(got, v) || n != len(b) || e != api.OK {
		t.Errorf("%d bytes, %v", n, e)
	}
}

// P3.2
func TestWriteOfWhatMayNotBe(t *testing.T) {
	refused := mayNotBe()
	for _, x := range mayBe() {
		if x.v.Kind != tStruct {
			refused = append(refused, x.v)
		}
	}
	for _, v := range refused {
		if b, e := thrift.Write(v); b != nil || e != api.ErrArg {
			t.Errorf("Write(%v): % x %v", short(v), b, e)
		}
	}
}

// P3.2: what is handed in is not changed, spare room behind it included; answers share nothing.
func TestWriteChangesNothing(t *testing.T) {
	roomOfIDs, room := []int{1, 2, 77}, []api.Thrift{num(tInt32, 1), text("a"), num(tBool, 1)}
	v := api.Thrift{Kind: tStruct, IDs: roomOfIDs[:2], List: room[:2]}
	a, _ := thrift.Write(v)
	b, _ := thrift.Write(v)
	thrift.Check(v)
	thrift.Size(v)
	thrift.Field(v, 2)
	if !slices.Equal(roomOfIDs, []int{1, 2, 77}) || !slices.EqualFunc(room, []api.Thrift{num(tInt32, 1), text("a"), num(tBool, 1)}, thrift.Same) {
		t.Errorf("%v %v", roomOfIDs, room)
	}
	a[0] = 99
	if !slices.Equal(b, unhex("15 02 18 01 61 00")) {
		t.Errorf("% x", b)
	}
}
