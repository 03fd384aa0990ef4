// Package keys reckons with keys: where one goes when nothing is known but the key.
package keys

const jumpFactor = 2862933555777941757

// Jump tells which of n places, all of which stand, a key goes to; the caller
// has seen to it that n is 1 to api.MaxPlaces.
//
// It is reckoned in whole numbers: in floats a quotient that is just a whole
// number can come out below it, and be cut off to one less.
func Jump(key uint64, n int) int {
	var b, j uint64
	// A divisor is at most 2^31, so j is above b each time, and the loop ends.
	for j < uint64(n) {
		b = j
		key = key*jumpFactor + 1
		divisor := (key >> 33) + 1
		j = ((b + 1) << 31) / divisor
	}
	return int(b)
}
