package datum

import (
	"strconv"

	"marquetry/api"
)

// digits are those to the base 16.
var digits = [16]byte{'0', '1', '2', '3', '4', '5', '6', '7', '8', '9', 'a', 'b', 'c', 'd', 'e', 'f'}

// Text tells a datum as a text: ? of what is of no type.
func Text(d api.Datum) string {
	if !ofSome(d) {
		return "?"
	}
	switch d.Kind {
	case api.KindBool:
		return strconv.FormatBool(d.Int == 1)
	case api.KindFloat:
		return string(appendHex([]byte{'x'}, uint64(d.Int), 8))
	case api.KindDouble:
		return string(appendHex([]byte{'x'}, uint64(d.Int), 16))
	case api.KindBytes, api.KindFixed:
		return quoted(d.Text)
	}
	return strconv.FormatInt(d.Int, 10)
}

// appendHex lays the lowest so many digits of n behind out, the highest first.
func appendHex(out []byte, n uint64, count int) []byte {
	for at := count - 1; at >= 0; at-- {
		out = append(out, digits[n>>(4*at)&15])
	}
	return out
}

// quoted is bytes between two ", with each that would not show as itself there
// by its number.
func quoted(s string) string {
	out := make([]byte, 0, len(s)+2)
	out = append(out, '"')
	for i := range len(s) {
		if c := s[i]; shows(c) {
			out = append(out, c)
		} else {
			out = appendHex(append(out, `\x`...), uint64(c), 2)
		}
	}
	return string(append(out, '"'))
}

func shows(c byte) bool { return c >= 32 && c <= 126 && c != '"' && c != '\\' }
