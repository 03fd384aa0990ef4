// Package recent remembers a few things, and forgets what was not asked for longest.
package recent

import "slices"

// Store remembers values by their keys, as many as it has room for.
type Store[K comparable, V any] struct {
	room    int
	entries []entry[K, V] // in the order of asking: the first one is forgotten first
}

type entry[K comparable, V any] struct {
	key   K
	value V
}

// New makes a store with room for so many keys, of which there must be one at least.
func New[K comparable, V any](room int) Store[K, V] {
	return Store[K, V]{room: room}
}

// Get tells what is remembered of a key, and whether anything is.
func (s *Store[K, V]) Get(key K) (V, bool) {
	at := s.find(key)
	if at < 0 {
		var none V
		return none, false
	}
	found := s.entries[at]
	s.drop(at)
	s.entries = append(s.entries, found)
	return found.value, true
}

// Put remembers a value, in the stead of what was remembered of the key; for
// a new key, where there is no room, another is forgotten.
func (s *Store[K, V]) Put(key K, value V) {
	if at := s.find(key); at >= 0 {
		s.drop(at)
	} else if len(s.entries) == s.room {
		s.drop(0)
	}
	s.entries = append(s.entries, entry[K, V]{key, value})
}

func (s *Store[K, V]) find(key K) int {
	return slices.IndexFunc(s.entries, func(e entry[K, V]) bool { return e.key == key })
}

func (s *Store[K, V]) drop(at int) {
	s.entries = slices.Delete(s.entries, at, at+1)
}
