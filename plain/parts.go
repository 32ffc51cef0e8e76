package plain

import (
	"marquetry/api"
	"marquetry/bits"
	"marquetry/datum"
)

// lengthBytes is how many bytes the length ahead of bytes has.
const lengthBytes = 4

// numbers is how a number goes that has so many bytes; of makes a datum of it.
func numbers(bytes int, of func(n uint64) api.Datum) part {
	// A number below 0 has bits set above its own, which would not fit.
	above := 64 - 8*bytes
	return part{
		size: func(api.Datum) int { return bytes },
		lay: func(out []byte, d api.Datum) []byte {
			b, _ := bits.Little(uint64(d.Int)<<above>>above, bytes)
			return append(out, b...)
		},
		tell: func(b []byte, at int) (api.Datum, bool) {
			n, e := bits.ReadLittle(b, at, bytes)
			return of(n), e == api.OK
		},
	}
}

func int32Of(n uint64) api.Datum { return datum.Int32(int32(n)) }

func int64Of(n uint64) api.Datum { return datum.Int64(int64(n)) }

// The bits of real numbers go as they are: as a number on the way, one that is
// no number might lose some of its bits.

func floatOf(n uint64) api.Datum { return api.Datum{Kind: api.KindFloat, Int: int64(n)} }

func doubleOf(n uint64) api.Datum { return api.Datum{Kind: api.KindDouble, Int: int64(n)} }

// texts is how bytes go that have their length ahead.
func texts() part {
	return part{
		size: func(d api.Datum) int { return lengthBytes + len(d.Text) },
		lay: func(out []byte, d api.Datum) []byte {
			length, _ := bits.Little(uint64(len(d.Text)), lengthBytes)
			return append(append(out, length...), d.Text...)
		},
		tell: func(b []byte, at int) (api.Datum, bool) {
			length, e := bits.ReadLittle(b, at, lengthBytes)
			if e != api.OK {
				return api.Datum{}, false
			}
			text, whole := cut(b, at+lengthBytes, length)
			return datum.Bytes(text), whole
		},
	}
}

// fixed is how bytes of a fixed length go.
func fixed(size int) part {
	return part{
		size: func(api.Datum) int { return size },
		lay:  func(out []byte, d api.Datum) []byte { return append(out, d.Text...) },
		tell: func(b []byte, at int) (api.Datum, bool) {
			text, whole := cut(b, at, uint64(size))
			return datum.Fixed(text), whole
		},
	}
}

// cut is so many bytes from a place on, which is within them or at their end,
// if they are there.
func cut(b []byte, at int, length uint64) (string, bool) {
	if length > uint64(len(b)-at) {
		return "", false
	}
	return string(b[at : at+int(length)]), true
}
