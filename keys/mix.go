package keys

import "porter/sum"

// Mix stirs a number, so that numbers close to each other come out far apart.
func Mix(x uint64) uint64 {
	x ^= x >> 30
	x *= 13787848793156543929
	x ^= x >> 27
	x *= 10723151780598845931
	return x ^ x>>31
}

// OfFlow tells the key of a flow's name.
func OfFlow(name string) uint64 {
	return Mix(uint64(sum.Of([]byte(name))))
}
