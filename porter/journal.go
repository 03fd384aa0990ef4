package porter

import (
	"bytes"

	"porter/api"
	"porter/records"
)

// Journal tells all that was taken and given (P8).
func (p *Pool) Journal() []byte { return bytes.Clone(p.journal) }

// Recover makes a pool of a journal (P9).
func Recover(journal []byte) (*Pool, int, api.Errno) {
	list := records.Read(journal)
	if len(list) == 0 || list[0].Kind != records.Made {
		return nil, 0, api.ErrJournal
	}
	p, e := New(int(list[0].Number))
	if e != api.OK {
		return nil, 0, api.ErrJournal
	}
	for _, r := range list[1:] {
		if !p.redo(r) {
			break
		}
	}
	// What was done again is written again, by the same calls, so these are the bytes that were used.
	return p, len(p.journal), api.OK
}

// redo does what a record says, if it can be done just so; else nothing.
func (p *Pool) redo(r records.Record) bool {
	place := int(r.Number)
	switch r.Kind {
	case records.Taken:
		return p.Take(place) == api.OK
	case records.Given:
		// Looked at first, for a place that is not the record's must not be given; an error Give tells itself.
		if next, _ := p.places.Next(); next != place {
			return false
		}
		_, e := p.Give()
		return e == api.OK
	}
	return false
}

// write puts a record into the journal. Sizes and places are at most api.MaxPlaces, so a byte holds them.
func (p *Pool) write(kind byte, number int) {
	p.journal = records.Append(p.journal, records.Record{Kind: kind, Number: byte(number)})
}
