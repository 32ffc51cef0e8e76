package hybrid

import (
	"slices"

	"marquetry/api"
	"marquetry/bits"
)

// refusal is what is panicked with where reading is given up.
type refusal struct {
	why api.Errno
}

// reasonOf is why reading was given up, by what was recovered.
func reasonOf(recovered any) api.Errno {
	switch r := recovered.(type) {
	case nil:
		return api.OK
	case refusal:
		return r.why
	}
	panic(recovered)
}

// must gives up, if what must hold does not.
func must(holds bool, why api.Errno) {
	if !holds {
		panic(refusal{why})
	}
}

// Read tells them back.
func Read(b []byte, width, count int) (l []int, e api.Errno) {
	defer func() { e = reasonOf(recover()) }()
	return numbersOf(wholeRuns(b, width, count)), api.OK
}

// Part tells them back, and how many bytes they have.
func Part(b []byte, width, count int) (l []int, size int, e api.Errno) {
	defer func() { e = reasonOf(recover()) }()
	runs, behind := frontRuns(b, width, count)
	return numbersOf(runs), behind, api.OK
}

// Runs tells the runs.
func Runs(b []byte, width, count int) (l []api.Run, e api.Errno) {
	defer func() { e = reasonOf(recover()) }()
	for _, r := range wholeRuns(b, width, count) {
		l = append(l, api.Run{Packed: r.packed, Count: len(r.numbers)})
	}
	return l, api.OK
}

func numbersOf(runs []run) []int {
	var l []int
	for _, r := range runs {
		l = append(l, r.numbers...)
	}
	return l
}

// wholeRuns are the runs of which b is.
func wholeRuns(b []byte, width, count int) []run {
	runs, behind := frontRuns(b, width, count)
	must(behind == len(b), api.ErrExtra)
	return runs
}

// frontRuns are the runs of so many numbers with which b begins, and the place
// behind them.
func frontRuns(b []byte, width, count int) ([]run, int) {
	must(isWidth(width) && count >= 0, api.ErrArg)
	must(len(b) <= api.MaxBytes && count <= api.MaxCount, api.ErrLong)
	var runs []run
	behind, take := 0, taker(b, width)
	for toCome := count; toCome > 0; {
		var r run
		r, behind = take(toCome)
		runs = append(runs, r)
		toCome -= len(r.numbers)
	}
	return runs, behind
}

// taker takes run after run, which has some of the numbers that are still to
// come, and tells the place behind it.
func taker(b []byte, width int) func(toCome int) (run, int) {
	at := 0
	return func(toCome int) (run, int) {
		head, body, e := bits.ReadVarint(b, at)
		must(e == api.OK, e)
		read := readRepeated
		if head%2 == 1 {
			read = readPacked
		}
		r, size := read(b[body:], width, head/2, toCome)
		at = body + size
		return r, at
	}
}

// readRepeated tells the run of the number with which b begins, n times, and
// how many bytes it has behind its head.
func readRepeated(b []byte, width int, n uint64, toCome int) (run, int) {
	must(n > 0 && n <= uint64(toCome), api.ErrForm)
	size := bytesOf(width)
	number, e := bits.ReadLittle(b, 0, size)
	must(e == api.OK, e)
	must(bits.Width(number) <= width, api.ErrForm)
	return run{false, slices.Repeat([]int{int(number)}, int(n))}, size
}

// readPacked tells the run of the n groups with which b begins, and how many
// bytes it has behind its head. A number too many that is not 0 tells ahead of
// bytes that are not there: so those that are missing are held to be 0 at first.
func readPacked(b []byte, width int, n uint64, toCome int) (run, int) {
	must(n > 0 && n <= uint64(groupsOf(toCome)), api.ErrForm)
	count := group * int(n)
	size, _ := bits.Size(width, count)
	body := make([]byte, size)
	there := copy(body, b)
	unpacked, _ := bits.Unpack(body, width, count)
	own := min(count, toCome)
	not0 := func(n uint64) bool { return n != 0 }
	must(!slices.ContainsFunc(unpacked[own:], not0), api.ErrForm)
	must(there == size, api.ErrShort)
	numbers := make([]int, own)
	for i := range numbers {
		numbers[i] = int(unpacked[i])
	}
	return run{true, numbers}, size
}
