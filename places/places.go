// Package places keeps which places of a pool stand, and tells where keys go among them.
package places

import (
	"slices"

	"porter/api"
)

// Set is the places from 0 on, as many as its first row has, less those that were taken.
type Set struct {
	taken []int   // in the order of taking, for the last one is given back first
	rows  [][]int // one more than taken; the last one has what stands
}

// New makes a set of so many places, all of which stand.
func New(size int) Set {
	row := make([]int, size)
	for place := range row {
		row[place] = place
	}
	return Set{rows: [][]int{row}}
}

// Take takes a place away.
func (s *Set) Take(place int) api.Errno {
	row := s.standing()
	last := len(row) - 1
	switch {
	case !s.Stands(place):
		return api.ErrNone
	case last == 0:
		return api.ErrLast
	case len(s.taken) == 0 && place == last:
		s.rows[0] = row[:last]
	default:
		s.taken = append(s.taken, place)
		s.rows = append(s.rows, without(row, place))
	}
	return api.OK
}

// Give gives back what was taken last, or a new place where nothing is taken.
func (s *Set) Give() (int, api.Errno) {
	place, e := s.Next()
	if e != api.OK {
		return 0, e
	}
	if last := len(s.taken) - 1; last >= 0 {
		s.taken = s.taken[:last]
		s.rows = s.rows[:last+1]
	} else {
		s.rows[0] = append(s.rows[0], place)
	}
	return place, api.OK
}

// Next tells what Give would, and gives nothing.
func (s *Set) Next() (int, api.Errno) {
	if last := len(s.taken) - 1; last >= 0 {
		return s.taken[last], api.OK
	}
	if s.size() == api.MaxPlaces {
		return 0, api.ErrFull
	}
	return s.size(), api.OK
}

// Standing tells the places that stand, in order, in a list of the caller's own.
func (s *Set) Standing() []int {
	list := slices.Clone(s.standing())
	slices.Sort(list)
	return list
}

// Stands tells whether there is such a place and it was not taken.
func (s *Set) Stands(place int) bool { return slices.Contains(s.standing(), place) }

func (s *Set) size() int { return len(s.rows[0]) }

func (s *Set) standing() []int { return s.rows[len(s.rows)-1] }

// without makes the row behind a row from which a place is taken. It is a row
// of its own, for the one ahead is needed still, by keys that go elsewhere from
// a place that was taken earlier.
func without(row []int, place int) []int {
	last := len(row) - 1
	next := slices.Clone(row)
	next[slices.Index(row, place)] = row[last]
	return next[:last]
}
