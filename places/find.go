package places

import (
	"slices"
	"sync"

	"porter/keys"
)

// workers is how many parts a list of keys is cut into at most.
const workers = 8

// Find tells where a key goes.
func (s *Set) Find(key uint64) int {
	place := keys.Jump(key, s.size())
	for {
		i := slices.Index(s.taken, place)
		if i < 0 {
			return place
		}
		// This row has none that was taken as early as place, so the way to one that stands ends.
		row := s.rows[i+1]
		spot := keys.Mix(key^keys.Mix(uint64(place)+1)) % uint64(len(row))
		place = row[spot]
	}
}

// FindAll tells where each of several keys goes, in a list of the caller's own.
func (s *Set) FindAll(list []uint64) []int {
	found := make([]int, len(list))
	part := (len(list) + workers - 1) / workers
	var group sync.WaitGroup
	for from := 0; from < len(list); from += part {
		to := min(from+part, len(list))
		group.Go(func() { s.findEach(list[from:to], found[from:to]) })
	}
	group.Wait()
	return found
}

func (s *Set) findEach(list []uint64, found []int) {
	for i, key := range list {
		found[i] = s.Find(key)
	}
}
