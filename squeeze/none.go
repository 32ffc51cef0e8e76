package squeeze

import "marquetry/api"

// Without a codec bytes go as they are, both ways: a new list of them, as no
// answer shares memory with what was handed in.

func squeezeNone(b []byte) ([]byte, api.Errno) { return openNone(b, api.MaxBytes) }

func openNone(b []byte, most int) ([]byte, api.Errno) {
	if len(b) > most {
		return nil, api.ErrLong
	}
	return append([]byte(nil), b...), api.OK
}

func mostNone(n int) int {
	if n < 0 || n > api.MaxBytes {
		return 0
	}
	return n
}
