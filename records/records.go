// Package records writes what was done to a pool as bytes, and reads it again as far as it can be trusted.
package records

import "porter/sum"

// The kinds of records.
const (
	Made  = 'P' // a pool was made, of this size
	Taken = 'T' // this place was taken
	Given = 'G' // this place was given
)

const (
	head = 2 // bytes of a record ahead of its seal: the kind and the number
	size = head + len(seal{})
)

// Record is one thing that was done.
type Record struct {
	Kind, Number byte
}

// seal is the sum at a record's end, the lowest byte first. It hangs on the
// record ahead too, so that none can be left out, nor stand elsewhere.
type seal [4]byte

// Append writes a record behind those of a list, all of which it wrote itself.
func Append(list []byte, r Record) []byte {
	own := r.sealBehind(lastSeal(list))
	list = append(list, r.Kind, r.Number)
	return append(list, own[:]...)
}

// Read tells the records of a list, up to the first one that is not whole or not right.
func Read(list []byte) []Record {
	var found []Record
	var ahead seal
	for len(list) >= size {
		r := Record{Kind: list[0], Number: list[1]}
		own := seal(list[head:size])
		if own != r.sealBehind(ahead) {
			break
		}
		found = append(found, r)
		ahead, list = own, list[size:]
	}
	return found
}

func lastSeal(list []byte) seal {
	if len(list) == 0 {
		return seal{}
	}
	return seal(list[len(list)-len(seal{}):])
}

func (r Record) sealBehind(ahead seal) seal {
	s := sum.Of(append(ahead[:], r.Kind, r.Number))
	return seal{byte(s), byte(s >> 8), byte(s >> 16), byte(s >> 24)}
}
