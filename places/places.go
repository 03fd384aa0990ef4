// Package places keeps which places of a pool stand.
package places

import (
	"slices"

	"porter/api"
)

// Set is the places from 0 to size - 1, less those that were taken.
type Set struct {
	size  int
	taken []int // in the order of taking, for the last one is given back first
}

// New makes a set of so many places, all of which stand.
func New(size int) Set {
	return Set{size: size}
}

// Take takes a place away.
func (s *Set) Take(place int) api.Errno {
	if !s.stands(place) {
		return api.ErrNone
	}
	if s.size-len(s.taken) == 1 {
		return api.ErrLast
	}
	if len(s.taken) == 0 && place == s.size-1 {
		s.size--
	} else {
		s.taken = append(s.taken, place)
	}
	return api.OK
}

// Give gives back what was taken last, or a new place where nothing is taken.
func (s *Set) Give() (int, api.Errno) {
	if last := len(s.taken) - 1; last >= 0 {
		place := s.taken[last]
		s.taken = s.taken[:last]
		return place, api.OK
	}
	if s.size == api.MaxPlaces {
		return 0, api.ErrFull
	}
	s.size++
	return s.size - 1, api.OK
}

// Standing tells the places that stand, in order, in a list of the caller's own.
func (s *Set) Standing() []int {
	list := make([]int, 0, s.size-len(s.taken))
	for place := range s.size {
		if s.stands(place) {
			list = append(list, place)
		}
	}
	return list
}

func (s *Set) stands(place int) bool {
	return place >= 0 && place < s.size && !slices.Contains(s.taken, place)
}
