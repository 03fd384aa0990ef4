package porter_test

import (
	"bytes"
	"encoding/binary"
	"hash/crc32"
	"slices"
	"testing"

	"porter/api"
	"porter/porter"
)

var castagnoli = crc32.MakeTable(crc32.Castagnoli)

const recordSize = 6

// sealed makes a journal of kinds and numbers, one behind the other, with sums by Go's own library.
func sealed(list ...byte) []byte {
	out := []byte{}
	ahead := make([]byte, 4)
	for pair := range slices.Chunk(list, 2) {
		s := crc32.Checksum(slices.Concat(ahead, pair), castagnoli)
		ahead = binary.LittleEndian.AppendUint32(nil, s)
		out = slices.Concat(out, pair, ahead)
	}
	return out
}

// history is a journal in which places are taken, given back, and given anew; stood tells what stood behind each of its records.
var (
	history = sealed('P', 4, 'T', 1, 'T', 3, 'G', 3, 'T', 0, 'G', 0, 'G', 1, 'G', 4, 'G', 5, 'T', 5, 'T', 2, 'T', 4)
	stood   = [][]int{
		{0, 1, 2, 3}, {0, 2, 3}, {0, 2}, {0, 2, 3}, {2, 3}, {0, 2, 3}, {0, 1, 2, 3},
		{0, 1, 2, 3, 4}, {0, 1, 2, 3, 4, 5}, {0, 1, 2, 3, 4}, {0, 1, 3, 4}, {0, 1, 3},
	}
)

func wantJournal(t *testing.T, p *porter.Pool, want []byte) {
	t.Helper()
	if got := p.Journal(); !bytes.Equal(got, want) {
		t.Errorf("P8: Journal() = %v, want %v", got, want)
	}
}

// wantRecover asks for a pool of the first used bytes of a journal.
func wantRecover(t *testing.T, journal []byte, used int) *porter.Pool {
	t.Helper()
	p, n, e := porter.Recover(journal)
	if p == nil || n != used || e != api.OK {
		t.Fatalf("P9: Recover(%v) = %v, %d, %d, want a pool of %d bytes", journal, p, n, e, used)
	}
	wantJournal(t, p, journal[:used])
	return p
}

func wantNoPool(t *testing.T, journal []byte) {
	t.Helper()
	if p, n, e := porter.Recover(journal); p != nil || n != 0 || e != api.ErrJournal {
		t.Errorf("P9: Recover(%v) = %v, %d, %d, want nil, 0, %d", journal, p, n, e, api.ErrJournal)
	}
}

// wantAlike holds two pools against each other: where they send keys, what stands, and what Give tells till they are full.
func wantAlike(t *testing.T, p, q *porter.Pool) {
	t.Helper()
	list := manyKeys(50)
	for {
		if got, want := p.Places(list), q.Places(list); !slices.Equal(got, want) {
			t.Fatalf("P9: keys go to %v, want %v", got, want)
		}
		if got, want := p.Standing(), q.Standing(); !slices.Equal(got, want) {
			t.Fatalf("P9: Standing() = %v, want %v", got, want)
		}
		wantJournal(t, p, q.Journal())
		got, e1 := p.Give()
		want, e2 := q.Give()
		if got != want || e1 != e2 {
			t.Fatalf("P9: Give() = %d, %d, want %d, %d", got, e1, want, e2)
		}
		if e1 != api.OK {
			return
		}
	}
}

func TestJournalOfKnownBytes(t *testing.T) {
	want := []byte{
		80, 64, 0xb3, 0x56, 0x83, 0xd6,
		84, 63, 0x6d, 0x53, 0x09, 0x2f,
		71, 63, 0x26, 0xdc, 0x37, 0x7c,
		84, 0, 0x0e, 0x41, 0x41, 0x11,
	}
	p := newPool(t, 64)
	wantJournal(t, p, want[:6])
	wantTake(t, p, 63, api.OK) // the size is less: a record all the same
	wantJournal(t, p, want[:12])
	wantGive(t, p, 63)
	wantJournal(t, p, want[:18])
	wantTake(t, p, 0, api.OK)
	wantJournal(t, p, want)
}

func TestJournalTellsEachCall(t *testing.T) {
	p := newPool(t, 4)
	wantTake(t, p, 1, api.OK)
	wantTake(t, p, 3, api.OK)
	wantJournal(t, p, sealed('P', 4, 'T', 1, 'T', 3))
	wantGive(t, p, 3)
	wantGive(t, p, 1)
	wantGive(t, p, 4)
	wantJournal(t, p, sealed('P', 4, 'T', 1, 'T', 3, 'G', 3, 'G', 1, 'G', 4))
}

func TestJournalOfEverySize(t *testing.T) {
	for n := 1; n <= api.MaxPlaces; n++ {
		wantJournal(t, newPool(t, n), sealed('P', byte(n)))
	}
}

func TestJournalTellsTheSizeThatNewWasGiven(t *testing.T) {
	p := poolLess(t, 3, 2, 1)
	wantJournal(t, p, sealed('P', 3, 'T', 2, 'T', 1))
	wantGive(t, p, 1)
	wantGive(t, p, 2)
	wantGive(t, p, 3)
	wantJournal(t, p, sealed('P', 3, 'T', 2, 'T', 1, 'G', 1, 'G', 2, 'G', 3))
}

func TestErrorsAreNotWrittenDown(t *testing.T) {
	p := newPool(t, 2)
	wantTake(t, p, 2, api.ErrNone)
	wantTake(t, p, -1, api.ErrNone)
	wantTake(t, p, 256, api.ErrNone)
	wantTake(t, p, 0, api.OK)
	wantTake(t, p, 0, api.ErrNone)
	wantTake(t, p, 1, api.ErrLast)
	wantJournal(t, p, sealed('P', 2, 'T', 0))

	p = newPool(t, api.MaxPlaces)
	wantFull(t, p)
	wantTake(t, p, 63, api.OK)
	wantGive(t, p, 63)
	wantFull(t, p)
	wantJournal(t, p, sealed('P', 64, 'T', 63, 'G', 63))
}

func TestAskingIsNotWrittenDown(t *testing.T) {
	p := poolLess(t, 5, 1)
	p.Place(7)
	p.Places(manyKeys(20))
	p.Route("a", 5)
	p.Route("", 5)
	p.Standing()
	p.Asked()
	p.Journal()
	wantJournal(t, p, sealed('P', 5, 'T', 1))
}

func TestAJournalMayBeLong(t *testing.T) {
	p := newPool(t, 3)
	want := []byte{'P', 3}
	for range 2000 {
		wantTake(t, p, 1, api.OK)
		wantGive(t, p, 1)
		want = append(want, 'T', 1, 'G', 1)
	}
	wantJournal(t, p, sealed(want...))
	wantAlike(t, wantRecover(t, sealed(want...), 3*len(want)), p)
}

func TestTheJournalIsTheCallersOwn(t *testing.T) {
	p := poolLess(t, 5, 1)
	for range 20 { // so that the pool's own list has spare room at times, and none at others
		first, second := p.Journal(), p.Journal()
		want := bytes.Clone(second)
		first = first[:cap(first)]
		for i := range first {
			first[i] = 77
		}
		if !bytes.Equal(second, want) {
			t.Fatalf("P2: writing into one journal changed another: %v, want %v", second, want)
		}
		wantJournal(t, p, want)
		wantTake(t, p, 2, api.OK)
		wantGive(t, p, 2)
		if !bytes.Equal(second, want) {
			t.Fatalf("P2: the pool's calls changed a journal that it gave out: %v, want %v", second, want)
		}
		second = second[:cap(second)]
		for i := range second {
			second[i] = 78
		}
		if got := p.Journal(); !bytes.Equal(got[:len(want)], want) || len(got) != len(want)+2*recordSize {
			t.Fatalf("P2: writing into a journal changed the pool's: %v", got)
		}
	}
	wantRecover(t, p.Journal(), len(p.Journal()))
}

func TestPoolsKnowNothingOfEachOthersJournals(t *testing.T) {
	p, q := newPool(t, 4), newPool(t, 4)
	wantTake(t, p, 1, api.OK)
	wantTake(t, q, 2, api.OK)
	wantTake(t, p, 2, api.OK)
	wantJournal(t, p, sealed('P', 4, 'T', 1, 'T', 2))
	wantJournal(t, q, sealed('P', 4, 'T', 2))

	journal := p.Journal()
	r, s := wantRecover(t, journal, 18), wantRecover(t, journal, 18)
	wantTake(t, r, 0, api.OK)
	wantGive(t, s, 2)
	wantJournal(t, p, journal)
	wantJournal(t, r, sealed('P', 4, 'T', 1, 'T', 2, 'T', 0))
	wantJournal(t, s, sealed('P', 4, 'T', 1, 'T', 2, 'G', 2))
}

func TestRecoverOfEverySize(t *testing.T) {
	for n := 1; n <= api.MaxPlaces; n++ {
		wantAlike(t, wantRecover(t, sealed('P', byte(n)), recordSize), newPool(t, n))
	}
}

func TestRecoverOfAJournalThatIsCutOff(t *testing.T) {
	for n := range len(history) + 1 {
		cut := history[:n:n]
		if n < recordSize {
			wantNoPool(t, cut)
			continue
		}
		p := wantRecover(t, cut, n-n%recordSize)
		wantStanding(t, p, stood[n/recordSize-1]...)
	}
	wantNoPool(t, nil)
}

func TestRecoverOfAJournalWithASpoiltByte(t *testing.T) {
	for i, right := range history {
		spoilt := bytes.Clone(history)
		for _, b := range []byte{right ^ 1, right ^ 128, ^right, right + 1, right - 1} {
			spoilt[i] = b
			if i < recordSize {
				wantNoPool(t, spoilt)
				continue
			}
			p := wantRecover(t, spoilt, i-i%recordSize)
			wantStanding(t, p, stood[i/recordSize-1]...)
		}
	}
}

func TestRecoverOfWhatDoesNotBeginAJournal(t *testing.T) {
	for number := range 256 {
		if number < 1 || number > api.MaxPlaces {
			wantNoPool(t, sealed('P', byte(number)))
			wantNoPool(t, sealed('P', byte(number), 'T', 1, 'P', 4))
		}
	}
	for kind := range 256 {
		if kind != 'P' {
			wantNoPool(t, sealed(byte(kind), 4))
			wantNoPool(t, sealed(byte(kind), 4, 'P', 4))
		}
	}
	wantNoPool(t, history[recordSize:])
	wantNoPool(t, append([]byte{0}, history...))
	wantNoPool(t, make([]byte, 600))
	wantNoPool(t, bytes.Repeat([]byte{'P'}, 600))
}

// What Take or Give would not do is neither done nor written down, and nothing behind it is.
func TestRecoverStopsAtWhatCanNotBe(t *testing.T) {
	for _, c := range []struct {
		right, wrong []byte
		standing     []int
	}{
		{[]byte{'P', 4}, []byte{'T', 4}, upTo(4)},
		{[]byte{'P', 4}, []byte{'T', 255}, upTo(4)},
		{[]byte{'P', 4, 'T', 1}, []byte{'T', 1}, []int{0, 2, 3}},
		{[]byte{'P', 4, 'T', 3}, []byte{'T', 3}, []int{0, 1, 2}},
		{[]byte{'P', 1}, []byte{'T', 0}, []int{0}},
		{[]byte{'P', 2, 'T', 0}, []byte{'T', 1}, []int{1}},
		{[]byte{'P', 4}, []byte{'G', 0}, upTo(4)},
		{[]byte{'P', 4}, []byte{'G', 3}, upTo(4)},
		{[]byte{'P', 4}, []byte{'G', 5}, upTo(4)},
		{[]byte{'P', 4, 'T', 1, 'T', 2}, []byte{'G', 1}, []int{0, 3}},
		{[]byte{'P', 4, 'T', 1}, []byte{'G', 4}, []int{0, 2, 3}},
		{[]byte{'P', 4, 'T', 1}, []byte{'G', 0}, []int{0, 2, 3}},
		{[]byte{'P', 4, 'T', 3}, []byte{'G', 4}, []int{0, 1, 2}},
		{[]byte{'P', 64}, []byte{'G', 64}, upTo(64)},
		{[]byte{'P', 64}, []byte{'G', 0}, upTo(64)}, // Give tells 0 with its error
		{[]byte{'P', 63, 'G', 63}, []byte{'G', 0}, upTo(64)},
		{[]byte{'P', 4}, []byte{'P', 4}, upTo(4)},
		{[]byte{'P', 4}, []byte{'P', 5}, upTo(4)},
		{[]byte{'P', 4}, []byte{'t', 1}, upTo(4)},
		{[]byte{'P', 4}, []byte{'g', 4}, upTo(4)},
		{[]byte{'P', 4}, []byte{0, 0}, upTo(4)},
	} {
		used := 3 * len(c.right)
		for _, behind := range [][]byte{nil, {'T', 0}, {'T', 2}, {'G', 4}} {
			journal := sealed(slices.Concat(c.right, c.wrong, behind)...)
			wantStanding(t, wantRecover(t, journal, used), c.standing...)
		}
		wantAlike(t, wantRecover(t, sealed(slices.Concat(c.right, c.wrong)...), used), wantRecover(t, sealed(c.right...), used))
	}
}

func TestRecoverStopsWhereARecordIsLeftOut(t *testing.T) {
	journal := sealed('P', 4, 'T', 1, 'T', 2)
	wantRecover(t, slices.Concat(journal[:6], journal[12:]), 6)
	wantRecover(t, slices.Concat(journal[:6], journal[12:], journal[6:12]), 6)
	// Behind what is no record, or can't be, one that is right behind the record ahead.
	wantRecover(t, slices.Concat(journal[:6], []byte{1, 2, 3, 4, 5, 6}, journal[6:]), 6)
	wantRecover(t, slices.Concat(journal[:6], sealed('P', 4, 'T', 9)[6:], journal[6:]), 6)
	// A whole journal behind another one is none of its records.
	wantRecover(t, slices.Concat(journal, journal), len(journal))
}

// replay does what records say by a pool's own calls, as the document asks for it, and tells how many of them it did.
func replay(t *testing.T, list []byte) (*porter.Pool, int) {
	t.Helper()
	p := newPool(t, int(list[1]))
	for i := 2; i < len(list); i += 2 {
		kind, place := list[i], int(list[i+1])
		if kind == 'T' && p.Take(place) == api.OK {
			continue
		}
		if probe, _ := rebuilt(t, list[:i]).Give(); kind == 'G' && probe == place {
			if _, e := p.Give(); e == api.OK {
				continue
			}
		}
		return p, i / 2
	}
	return p, len(list) / 2
}

// rebuilt makes a pool by the calls that records tell of, all of which can be.
func rebuilt(t *testing.T, list []byte) *porter.Pool {
	t.Helper()
	p := newPool(t, int(list[1]))
	for pair := range slices.Chunk(list[2:], 2) {
		if pair[0] == 'T' {
			wantTake(t, p, int(pair[1]), api.OK)
		} else {
			wantGive(t, p, int(pair[1]))
		}
	}
	return p
}

func TestRecoverDoesWhatTheCallsWould(t *testing.T) {
	d := dice(1)
	lengths := map[int]int{}
	for range 1000 {
		list := []byte{'P', byte(1 + d.roll(4))}
		for range 6 {
			list = append(list, "TTGGP"[d.roll(5)], byte(d.roll(5)))
		}
		want, done := replay(t, list)
		wantAlike(t, wantRecover(t, sealed(list...), done*recordSize), want)
		lengths[done]++
	}
	for n := 1; n <= 5; n++ {
		if lengths[n] == 0 {
			t.Errorf("no journal of %d records that can be", n)
		}
	}
}

func TestARecoveredPoolGoesOn(t *testing.T) {
	p := wantRecover(t, sealed('P', 4, 'T', 1, 'T', 9), 12)
	wantTake(t, p, 1, api.ErrNone)
	wantTake(t, p, 3, api.OK)
	wantStanding(t, p, 0, 2)
	wantJournal(t, p, sealed('P', 4, 'T', 1, 'T', 3))
	wantGive(t, p, 3)
	wantGive(t, p, 1)
	wantGive(t, p, 4)
	wantJournal(t, p, sealed('P', 4, 'T', 1, 'T', 3, 'G', 3, 'G', 1, 'G', 4))
	again := wantRecover(t, p.Journal(), 36)
	wantAlike(t, again, p)
}

func TestARecoveredPoolWasAskedForNothing(t *testing.T) {
	old := poolAway(t, 1, 500)
	old.Places(manyKeys(10))
	wantAsked(t, old, 11)
	p := wantRecover(t, old.Journal(), 18)
	wantAsked(t, p, 0)
	wantRoute(t, p, "a", 5, home) // the old pool's flows and times are nothing to it
	wantAsked(t, p, 1)
	wantAsked(t, old, 11)
	wantRoute(t, old, "a", 501, 2)
}

func TestTheJournalHandedInStaysAsItIs(t *testing.T) {
	whole := append(bytes.Clone(history), 77, 78, 79, 80, 81, 82, 83)
	given := bytes.Clone(whole)
	for n := range len(history) + 1 {
		p, _, e := porter.Recover(given[:n])
		if e == api.OK {
			p.Give()
			p.Take(0)
		}
		if !bytes.Equal(given, whole) {
			t.Fatalf("P2: Recover of %d bytes wrote into what it was given, or its spare room: %v", n, given)
		}
	}
}

func TestTheJournalHandedInIsNotKept(t *testing.T) {
	given := append(bytes.Clone(history), 1, 2, 3)
	p := wantRecover(t, given, len(history))
	clear(given)
	wantJournal(t, p, history)
	wantTake(t, p, 3, api.OK)
	wantGive(t, p, 3)
	if !bytes.Equal(given, make([]byte, len(given))) {
		t.Errorf("P2: the pool wrote into the journal that Recover was given: %v", given)
	}
	if got := p.Journal(); !bytes.HasPrefix(got, history) {
		t.Errorf("P2: what was written into a journal changed the pool's: %v", got)
	}
}

func FuzzRecover(f *testing.F) {
	f.Add([]byte{}, false)
	f.Add([]byte("PPPPPPPPPPPP"), false)
	f.Add(history, false)
	f.Add([]byte{'P', 4, 'T', 1, 'G', 1, 'G', 4, 'T'}, true)
	f.Fuzz(func(t *testing.T, data []byte, seal bool) {
		if seal {
			data = sealed(data[:len(data)-len(data)%2]...)
		}
		p, used, e := porter.Recover(data)
		if e != api.OK {
			wantNoPool(t, data)
			return
		}
		if used < recordSize || used%recordSize != 0 || used > len(data) {
			t.Fatalf("P9: Recover used %d of %d bytes", used, len(data))
		}
		wantJournal(t, p, data[:used])
		wantAlike(t, wantRecover(t, data[:used], used), p)
	})
}
