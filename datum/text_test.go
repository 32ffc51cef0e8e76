package datum_test

import (
	"fmt"
	"math"
	"math/rand/v2"
	"strings"
	"testing"

	"marquetry/api"
	"marquetry/datum"
)

// P9.2
func TestMakers(t *testing.T) {
	for i, x := range []struct{ got, want api.Datum }{
		{datum.Bool(false), api.Datum{Kind: api.KindBool}},
		{datum.Bool(true), api.Datum{Kind: api.KindBool, Int: 1}},
		{datum.Int32(0), api.Datum{Kind: api.KindInt32}},
		{datum.Int32(-1), api.Datum{Kind: api.KindInt32, Int: -1}},
		{datum.Int32(math.MinInt32), api.Datum{Kind: api.KindInt32, Int: math.MinInt32}},
		{datum.Int32(math.MaxInt32), api.Datum{Kind: api.KindInt32, Int: math.MaxInt32}},
		{datum.Int64(-5), api.Datum{Kind: api.KindInt64, Int: -5}},
		{datum.Int64(math.MinInt64), api.Datum{Kind: api.KindInt64, Int: math.MinInt64}},
		{datum.Int64(math.MaxInt64), api.Datum{Kind: api.KindInt64, Int: math.MaxInt64}},
		{datum.Float(1), api.Datum{Kind: api.KindFloat, Int: 0x3f800000}},
		{datum.Float(-2), api.Datum{Kind: api.KindFloat, Int: 0xc0000000}},
		{datum.Float(float32(math.Copysign(0, -1))), api.Datum{Kind: api.KindFloat, Int: 0x80000000}},
		{datum.Float(math.Float32frombits(0xffc12345)), api.Datum{Kind: api.KindFloat, Int: 0xffc12345}},
		{datum.Double(1), api.Datum{Kind: api.KindDouble, Int: 0x3ff0000000000000}},
		{datum.Double(math.Copysign(0, -1)), api.Datum{Kind: api.KindDouble, Int: math.MinInt64}},
		{datum.Double(math.Float64frombits(math.MaxUint64)), api.Datum{Kind: api.KindDouble, Int: -1}},
		{datum.Bytes(""), api.Datum{Kind: api.KindBytes}},
		{datum.Bytes("a\xff\x00"), api.Datum{Kind: api.KindBytes, Text: "a\xff\x00"}},
		{datum.Bytes(long(api.MaxBytes + 1)), api.Datum{Kind: api.KindBytes, Text: long(api.MaxBytes + 1)}},
		{datum.Fixed(""), api.Datum{Kind: api.KindFixed}},
		{datum.Fixed("ab"), api.Datum{Kind: api.KindFixed, Text: "ab"}},
		{datum.Fixed(long(api.MaxBytes)), api.Datum{Kind: api.KindFixed, Text: long(api.MaxBytes)}},
	} {
		if x.got != x.want {
			t.Errorf("%d: %s, not %s", i, short(x.got), short(x.want))
		}
	}
}

// P9.2: real numbers keep all their bits.
func TestRealNumbersBits(t *testing.T) {
	r := rand.New(rand.NewPCG(3, 9))
	for range 10000 {
		n := r.Uint64()
		if d := datum.Double(math.Float64frombits(n)); d != (api.Datum{Kind: 5, Int: int64(n)}) {
			t.Errorf("Double of %x: %v", n, d)
		}
		if d := datum.Float(math.Float32frombits(uint32(n))); d != (api.Datum{Kind: 4, Int: int64(uint32(n))}) {
			t.Errorf("Float of %x: %v", uint32(n), d)
		}
	}
}

// P9.2: what is made is of its type, if that may be.
func TestWhatIsMadeIsOfAType(t *testing.T) {
	r := rand.New(rand.NewPCG(4, 9))
	for range 10000 {
		d := randomDatum(r)
		x := api.Type{Kind: d.Kind}
		if d.Kind == api.KindFixed {
			x.Size = len(d.Text)
		}
		if !datum.Of(d, x) {
			t.Errorf("Of(%v, %v): false", d, x)
		}
	}
}

func wantText(t *testing.T, d api.Datum, want string) {
	t.Helper()
	if got := datum.Text(d); got != want {
		t.Errorf("Text(%s): %.80q, not %.80q", short(d), got, want)
	}
}

// P9.2: the table of the chapter, and its like.
func TestText(t *testing.T) {
	for d, want := range map[api.Datum]string{
		datum.Bool(false):                        "false",
		datum.Bool(true):                         "true",
		datum.Int32(0):                           "0",
		datum.Int32(-5):                          "-5",
		datum.Int32(math.MaxInt32):               "2147483647",
		datum.Int32(math.MinInt32):               "-2147483648",
		datum.Int64(-5):                          "-5",
		datum.Int64(1000):                        "1000",
		datum.Int64(math.MaxInt64):               "9223372036854775807",
		datum.Int64(math.MinInt64):               "-9223372036854775808",
		datum.Float(0):                           "x00000000",
		datum.Float(1):                           "x3f800000",
		{Kind: 4, Int: 0x89abcdef}:               "x89abcdef",
		{Kind: 4, Int: 0xffffffff}:               "xffffffff",
		datum.Double(0):                          "x0000000000000000",
		datum.Double(-2):                         "xc000000000000000",
		datum.Double(math.Copysign(0, -1)):       "x8000000000000000",
		{Kind: 5, Int: 0x0123456789abcdef}:       "x0123456789abcdef",
		{Kind: 5, Int: -1}:                       "xffffffffffffffff",
		datum.Bytes(""):                          `""`,
		datum.Bytes(`a"`):                        `"a\x22"`,
		datum.Bytes(`\`):                         `"\x5c"`,
		datum.Bytes(" ~\x1f\x7f"):                `" ~\x1f\x7f"`,
		datum.Bytes("\n\x00\xff\x80"):            `"\x0a\x00\xff\x80"`,
		datum.Bytes("ä"):                         `"\xc3\xa4"`,
		datum.Bytes("?"):                         `"?"`,
		datum.Fixed("abc"):                       `"abc"`,
		datum.Fixed("'\""):                       `"'\x22"`,
		datum.Fixed("\x00"):                      `"\x00"`,
		datum.Fixed(""):                          "?",
		{Kind: 3}:                                "?",
		{Kind: api.KindBool, Int: 2}:             "?",
		{Kind: api.KindInt32, Int: 1 << 31}:      "?",
		{Kind: api.KindInt64, Int: 1, Text: "a"}: "?",
		{Kind: api.KindBytes, Int: 1, Text: "a"}: "?",
	} {
		wantText(t, d, want)
	}
}

// P9.2: each byte.
func TestTextOfEachByte(t *testing.T) {
	all, want := make([]byte, 256), ""
	for i := range all {
		all[i] = byte(i)
		its := string(all[i : i+1])
		if i < 32 || i > 126 || i == '"' || i == '\\' {
			its = fmt.Sprintf(`\x%02x`, i)
		}
		want += its
		wantText(t, datum.Bytes(string(all[i:i+1])), `"`+its+`"`)
		wantText(t, datum.Fixed(string(all[i:i+1])), `"`+its+`"`)
	}
	wantText(t, datum.Bytes(string(all)), `"`+want+`"`)
}

// P9.2: as many bytes as may be, and one more.
func TestTextAtTheBound(t *testing.T) {
	for _, c := range []string{"x", "\xff"} {
		its := c
		if c == "\xff" {
			its = `\xff`
		}
		s := strings.Repeat(c, api.MaxBytes)
		want := `"` + strings.Repeat(its, api.MaxBytes) + `"`
		wantText(t, datum.Bytes(s), want)
		wantText(t, datum.Fixed(s), want)
		wantText(t, datum.Bytes(s+c), "?")
		wantText(t, datum.Fixed(s+c), "?")
	}
}

// P9.2
func TestTextOfNumbers(t *testing.T) {
	r := rand.New(rand.NewPCG(5, 9))
	for range 10000 {
		n := r.Uint64() >> r.IntN(64)
		wantText(t, datum.Int64(int64(n)), fmt.Sprint(int64(n)))
		wantText(t, datum.Int32(int32(n)), fmt.Sprint(int32(n)))
		wantText(t, api.Datum{Kind: 4, Int: int64(uint32(n))}, fmt.Sprintf("x%08x", uint32(n)))
		wantText(t, api.Datum{Kind: 5, Int: int64(n)}, fmt.Sprintf("x%016x", n))
	}
}

// P9.2: two data of a type have one text, just if they are the same, or are of KindBytes and KindFixed, or of both whole kinds.
func TestTextTellsApart(t *testing.T) {
	class := map[api.Kind]api.Kind{0: 0, 1: 1, 2: 1, 4: 4, 5: 5, 6: 6, 7: 6}
	told := map[string]api.Datum{}
	for _, x := range good() {
		text := datum.Text(x.d)
		if text == "?" {
			t.Errorf("Text(%s): ?", short(x.d))
		}
		if was, there := told[text]; there && (class[was.Kind] != class[x.d.Kind] || was.Int != x.d.Int || was.Text != x.d.Text) {
			t.Errorf("%s and %s: both %.60q", short(was), short(x.d), text)
		}
		told[text] = x.d
	}
}

// P9.2
func TestTextOfNoType(t *testing.T) {
	for _, d := range bad() {
		wantText(t, d, "?")
	}
}
