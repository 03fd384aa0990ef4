// Package porter: keys go to places, and few move when places come and go: see DOC.md.
package porter

import (
	"sync/atomic"

	"porter/api"
	"porter/keys"
	"porter/places"
	"porter/recent"
	"porter/records"
)

// Jump tells which of n places, all of which stand, a key goes to (P3).
func Jump(key uint64, n int) (int, api.Errno) {
	if !isSize(n) {
		return 0, api.ErrArg
	}
	return keys.Jump(key, n), api.OK
}

// Pool is places, some of which stand.
type Pool struct {
	places  places.Set
	asked   atomic.Uint64 // keys may be asked for by several goroutines at once
	flows   recent.Store[string, visit]
	latest  int    // the last time that Route was told without an error
	journal []byte // records of all that was done, from the making of the pool on
}

// New makes a pool of n places (P4).
func New(n int) (*Pool, api.Errno) {
	if !isSize(n) {
		return nil, api.ErrArg
	}
	p := &Pool{
		places: places.New(n),
		flows:  recent.New[string, visit](api.MaxFlows),
	}
	p.write(records.Made, n)
	return p, api.OK
}

// Take takes a place away (P5).
func (p *Pool) Take(place int) api.Errno {
	e := p.places.Take(place)
	if e == api.OK {
		p.write(records.Taken, place)
	}
	return e
}

// Give gives a place back, or a new one (P5).
func (p *Pool) Give() (int, api.Errno) {
	place, e := p.places.Give()
	if e == api.OK {
		p.write(records.Given, place)
	}
	return place, e
}

// Standing tells the places that stand (P5).
func (p *Pool) Standing() []int { return p.places.Standing() }

// Place tells where a key goes (P6).
func (p *Pool) Place(key uint64) int {
	p.asked.Add(1)
	return p.places.Find(key)
}

// Places tells where several keys go (P6).
func (p *Pool) Places(keys []uint64) []int {
	p.asked.Add(uint64(len(keys)))
	return p.places.FindAll(keys)
}

// Asked tells how many keys were asked for (P6).
func (p *Pool) Asked() uint64 { return p.asked.Load() }

func isSize(n int) bool { return n >= 1 && n <= api.MaxPlaces }
