// Package sum reckons the check CRC-32C of bytes.
package sum

import "sync"

const (
	start      = 4294967295
	polynomial = 2197175160
)

var (
	once  sync.Once
	table [256]uint32 // only read behind once.Do
)

// Of tells the sum of bytes.
func Of(data []byte) uint32 {
	once.Do(fill)
	c := uint32(start)
	for _, b := range data {
		c = c>>8 ^ table[byte(c)^b]
	}
	return ^c
}

func fill() {
	for b := range table {
		table[b] = shiftByte(uint32(b))
	}
}

// shiftByte does the eight steps that the document asks for with each byte.
func shiftByte(c uint32) uint32 {
	for range 8 {
		if c&1 == 1 {
			c = c>>1 ^ polynomial
		} else {
			c >>= 1
		}
	}
	return c
}
