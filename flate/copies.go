package flate

import "iter"

// How many bytes a copy makes, and from how far back at most.
const (
	leastCopy = 3
	mostCopy  = 258
	farthest  = 1 << 15
)

// nearEnough is from how far back a copy of the fewest bytes has, as a rule, fewer
// bits than the bytes themselves.
const nearEnough = 1 << 12

// mostTries is at how many places a copy is looked for.
const mostTries = 32

func pays(size, back int) bool {
	return size > leastCopy || size == leastCopy && back <= nearEnough
}

// copiesOf is how it is found how many bytes of b, from a place on and up to
// another, can be copied, and from how far back. Places are asked for one behind
// the other.
func copiesOf(b []byte) func(at, until int) (size, back int) {
	places := placesOf(b)
	return func(at, until int) (size, back int) {
		until = min(until, at+mostCopy)
		if until-at < leastCopy {
			return 0, 0
		}
		for from := range places(at) {
			if n := alike(b[from:], b[at:until]); n > size {
				size, back = n, at-from
			}
			if size == until-at {
				break
			}
		}
		return size, back
	}
}

// placesOf is how it is gone over some places that have the same bytes as the one
// that is asked for, the nearest ahead, none too far back.
func placesOf(b []byte) func(at int) iter.Seq[int] {
	last, known := map[[leastCopy]byte]int{}, 0
	before := make([]int, len(b)) // a place with the same bytes, -1: none
	lastOf := func(place int) int {
		if from, there := last[[leastCopy]byte(b[place:])]; there {
			return from
		}
		return -1
	}
	return func(at int) iter.Seq[int] {
		for ; known < at; known++ {
			before[known] = lastOf(known)
			last[[leastCopy]byte(b[known:])] = known
		}
		return func(yield func(int) bool) {
			from := lastOf(at)
			for tries := 0; tries < mostTries && from >= 0 && at-from <= farthest; tries++ {
				if !yield(from) {
					return
				}
				from = before[from]
			}
		}
	}
}

// alike is how many bytes are the same in front of both; ahead is not shorter.
func alike(ahead, b []byte) int {
	for i, c := range b {
		if ahead[i] != c {
			return i
		}
	}
	return len(b)
}
