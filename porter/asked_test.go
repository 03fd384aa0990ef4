package porter

import (
	"math"
	"testing"
)

func TestAskedIsCutTo64Bits(t *testing.T) {
	for _, c := range []struct {
		name string
		ask  func(p *Pool)
		want uint64
	}{
		{"Place", func(p *Pool) { p.Place(1) }, 0},
		{"Places", func(p *Pool) { p.Places(make([]uint64, 5)) }, 4},
		{"Route", func(p *Pool) { p.Route("a", 1) }, 0},
	} {
		p, _ := New(3)
		p.asked.Store(math.MaxUint64)
		c.ask(p)
		if got := p.Asked(); got != c.want {
			t.Errorf("P6: Asked() behind 2^64 - 1 keys and %s = %d, want %d", c.name, got, c.want)
		}
	}
}
