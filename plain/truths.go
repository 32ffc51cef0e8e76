package plain

import (
	"iter"

	"marquetry/api"
	"marquetry/bits"
	"marquetry/datum"
)

// truthWidth is how many bits a truth has.
const truthWidth = 1

func sizeTruths(data []api.Datum) int {
	size, _ := bits.Size(truthWidth, len(data))
	return size
}

func layTruths(data []api.Datum) []byte {
	l := make([]uint64, len(data))
	for i, d := range data {
		l[i] = uint64(d.Int)
	}
	b, _ := bits.Pack(truthWidth, l...)
	return b
}

func readTruths(b []byte, count int) ([]api.Datum, api.Errno) {
	l, e := bits.Unpack(b, truthWidth, count)
	if e != api.OK {
		return nil, e
	}
	data := make([]api.Datum, count)
	for i, n := range l {
		data[i] = datum.Bool(n == 1)
	}
	return data, api.OK
}

func allTruths(b []byte) iter.Seq2[int, api.Datum] {
	all := bits.Bits(b)
	return func(yield func(int, api.Datum) bool) {
		at := 0
		for bit := range all {
			if !yield(at, datum.Bool(bit == 1)) {
				return
			}
			at++
		}
	}
}
