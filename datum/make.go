package datum

import (
	"math"

	"marquetry/api"
)

// Bool is a truth.
func Bool(b bool) api.Datum {
	if b {
		return api.Datum{Kind: api.KindBool, Int: 1}
	}
	return api.Datum{Kind: api.KindBool}
}

// Int32 is a number of 32 bits.
func Int32(n int32) api.Datum { return api.Datum{Kind: api.KindInt32, Int: int64(n)} }

// Int64 is a number of 64 bits.
func Int64(n int64) api.Datum { return api.Datum{Kind: api.KindInt64, Int: n} }

// Float is a real number of 32 bits.
func Float(x float32) api.Datum {
	return api.Datum{Kind: api.KindFloat, Int: int64(math.Float32bits(x))}
}

// Double is a real number of 64 bits.
func Double(x float64) api.Datum {
	return api.Datum{Kind: api.KindDouble, Int: int64(math.Float64bits(x))}
}

// Bytes is bytes: of no type, if they are too many.
func Bytes(s string) api.Datum { return api.Datum{Kind: api.KindBytes, Text: s} }

// Fixed is bytes of a fixed length: of no type, if they are none, or too many.
func Fixed(s string) api.Datum { return api.Datum{Kind: api.KindFixed, Text: s} }
