package plain

import (
	"iter"

	"marquetry/api"
)

// part is how one value goes that has bytes of its own, one at least: how
// many, which ones, and which value stands at a place, if it is there whole.
type part struct {
	size func(d api.Datum) int
	lay  func(out []byte, d api.Datum) []byte
	tell func(b []byte, at int) (api.Datum, bool)
}

// inRow is the way of values that stand one behind the other.
func inRow(p part) way { return way{p.sizeAll, p.layAll, p.readAll, p.all} }

func (p part) sizeAll(data []api.Datum) int {
	size := 0
	for _, d := range data {
		size += p.size(d)
	}
	return size
}

func (p part) layAll(data []api.Datum) []byte {
	out := make([]byte, 0, p.sizeAll(data))
	for _, d := range data {
		out = p.lay(out, d)
	}
	return out
}

func (p part) readAll(b []byte, count int) ([]api.Datum, api.Errno) {
	var data []api.Datum
	end, e := 0, api.ErrShort
	for at, d := range p.all(b) {
		if len(data) == count {
			break
		}
		data = append(data, d)
		end = at + p.size(d)
	}
	if len(data) < count {
		goto refused
	}
	e = api.ErrExtra
	if end < len(b) {
		goto refused
	}
	return data, api.OK
refused:
	return nil, e
}

func (p part) all(b []byte) iter.Seq2[int, api.Datum] {
	return func(yield func(int, api.Datum) bool) {
		at := 0
		for {
			d, whole := p.tell(b, at)
			if !whole || !yield(at, d) {
				return
			}
			at += p.size(d)
		}
	}
}
