package records

import (
	"bytes"
	"slices"
	"testing"
)

// Known records, and their bytes.
var (
	known = []Record{{'P', 4}, {'T', 1}, {'T', 3}, {'G', 3}, {'G', 1}, {'G', 4}, {'T', 4}}

	knownBytes = []byte{
		80, 4, 0x10, 0xdc, 0x62, 0x50,
		84, 1, 0x50, 0x67, 0xc5, 0x6c,
		84, 3, 0xce, 0x8f, 0x6a, 0x5f,
		71, 3, 0xd4, 0x9f, 0x06, 0x17,
		71, 1, 0x77, 0xa1, 0x48, 0x0c,
		71, 4, 0x58, 0xcc, 0x09, 0x6e,
		84, 4, 0x94, 0xbe, 0xf7, 0x28,
	}
)

func written(list ...Record) []byte {
	var out []byte
	for _, r := range list {
		out = Append(out, r)
	}
	return out
}

func wantRead(t *testing.T, list []byte, want []Record) {
	t.Helper()
	if got := Read(list); !slices.Equal(got, want) {
		t.Errorf("P9: Read(%v) = %v, want %v", list, got, want)
	}
}

func TestAppendOfKnownRecords(t *testing.T) {
	for n := range len(known) + 1 {
		if got, want := written(known[:n]...), knownBytes[:6*n]; !bytes.Equal(got, want) {
			t.Errorf("P8: the bytes of %v are %v, want %v", known[:n], got, want)
		}
	}
}

func TestReadOfEveryLength(t *testing.T) {
	for n := range len(knownBytes) + 1 {
		wantRead(t, knownBytes[:n:n], known[:n/6])
	}
	wantRead(t, nil, nil)
}

func TestReadOfEveryRecord(t *testing.T) {
	for kind := range 256 {
		for number := range 256 {
			list := []Record{{byte(kind), byte(number)}, {byte(number), byte(kind)}}
			wantRead(t, written(list...), list)
		}
	}
}

func TestReadStopsAtASpoiltByte(t *testing.T) {
	for i, right := range knownBytes {
		spoilt := bytes.Clone(knownBytes)
		for b := range 256 {
			if byte(b) != right {
				spoilt[i] = byte(b)
				wantRead(t, spoilt, known[:i/6])
			}
		}
	}
}

func TestReadStopsWhereRecordsDoNotFollow(t *testing.T) {
	record := func(i int) []byte { return knownBytes[6*i : 6*i+6] }
	for i := range known {
		if i > 0 {
			wantRead(t, record(i), nil) // right, but behind another
		}
		for j := range known {
			if j != i+1 {
				wantRead(t, slices.Concat(knownBytes[:6*i+6], record(j)), known[:i+1])
			}
		}
	}
}

func TestReadGoesNoFurtherThanItsStop(t *testing.T) {
	wrong := []byte{1, 2, 3, 4, 5, 6}
	wantRead(t, slices.Concat(knownBytes[:6], wrong, knownBytes[6:]), known[:1])
	wantRead(t, slices.Concat(wrong, knownBytes), nil)
	wantRead(t, slices.Concat(knownBytes, wrong), known)
	// Whole records are looked for one behind the other alone, not between.
	wantRead(t, slices.Concat(knownBytes[:6], []byte{0}, knownBytes[6:]), known[:1])
	wantRead(t, slices.Concat([]byte{0}, knownBytes), nil)
}

func TestReadWritesNothing(t *testing.T) {
	list := bytes.Clone(knownBytes)
	Read(list[:20])
	if !bytes.Equal(list, knownBytes) {
		t.Errorf("P2: Read changed the list that it was given, or its spare room: %v", list)
	}
}
