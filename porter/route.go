package porter

import (
	"strings"

	"porter/api"
	"porter/keys"
)

// visit is where a flow went last, and when.
type visit struct {
	place, at int
}

// Route tells where a flow goes (P7).
func (p *Pool) Route(flow string, now int) (int, api.Errno) {
	switch {
	case len(flow) < 1 || len(flow) > api.MaxName:
		return 0, api.ErrText
	case now < 0 || now > api.MaxTime:
		return 0, api.ErrArg
	case now < p.latest:
		return 0, api.ErrTime
	}
	place := p.placeOf(flow, now)
	// A copy, for nothing that is handed in is kept as it is.
	p.flows.Put(strings.Clone(flow), visit{place, now})
	p.latest = now
	p.asked.Add(1)
	return place, api.OK
}

// placeOf lets a flow stay where it is, if it may.
func (p *Pool) placeOf(flow string, now int) int {
	last, known := p.flows.Get(flow)
	if known && now-last.at <= api.MaxIdle && p.places.Stands(last.place) {
		return last.place
	}
	return p.places.Find(keys.OfFlow(flow))
}
