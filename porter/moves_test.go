package porter_test

import (
	"slices"
	"testing"

	"porter/api"
	"porter/porter"
)

// dice roll the same each time that a test is run.
type dice uint64

func (d *dice) roll(n int) int {
	*d = *d*6364136223846793005 + 1442695040888963407
	return int((*d >> 33) % dice(n))
}

// walker takes and gives places of a pool, and looks at each step where some keys go.
type walker struct {
	t    *testing.T
	pool *porter.Pool
	keys []uint64
	now  []int   // where the keys go
	were [][]int // where they went behind each record of the journal
	dice dice
}

func newWalker(t *testing.T, n int) *walker {
	t.Helper()
	w := &walker{t: t, pool: newPool(t, n), keys: manyKeys(3000), dice: dice(n)}
	w.look()
	return w
}

func (w *walker) look() {
	w.t.Helper()
	w.now = w.pool.Places(w.keys)
	w.were = append(w.were, w.now)
	standing := w.pool.Standing()
	for i, place := range w.now {
		if !slices.Contains(standing, place) {
			w.t.Fatalf("P10: key %d goes to %d, of %v", w.keys[i], place, standing)
		}
	}
}

// take takes a place, of which no other than its own keys may know.
func (w *walker) take(place int) {
	w.t.Helper()
	was := w.now
	wantTake(w.t, w.pool, place, api.OK)
	w.look()
	for i, now := range w.now {
		if now != was[i] && was[i] != place {
			w.t.Fatalf("P10: when %d was taken, key %d went from %d to %d", place, w.keys[i], was[i], now)
		}
	}
}

// give gives a place, to which alone keys may go.
func (w *walker) give() {
	w.t.Helper()
	was := w.now
	place, e := w.pool.Give()
	if e != api.OK {
		w.t.Fatalf("P5: Give() = %d, %d", place, e)
	}
	w.look()
	for i, now := range w.now {
		if now != was[i] && now != place {
			w.t.Fatalf("P10: when %d was given, key %d went from %d to %d", place, w.keys[i], was[i], now)
		}
	}
	if !slices.Contains(w.now, place) {
		w.t.Fatalf("P10: %d was given, and no key goes there", place)
	}
}

// takeAndGive takes a place and gives it back right behind.
func (w *walker) takeAndGive(place int) {
	w.t.Helper()
	was := w.now
	w.take(place)
	w.give()
	if !slices.Equal(w.now, was) {
		w.t.Fatalf("P10: %d was given back, and not all keys are where they were", place)
	}
}

// any tells one of the places that stand.
func (w *walker) any() int {
	standing := w.pool.Standing()
	return standing[w.dice.roll(len(standing))]
}

// walk does so many steps, each of which can be.
func (w *walker) walk(steps int) {
	w.t.Helper()
	for range steps {
		stand := len(w.pool.Standing())
		switch w.dice.roll(3) {
		case 0:
			if stand < api.MaxPlaces {
				w.give()
			}
		case 1:
			if stand > 1 {
				w.take(w.any())
			}
		default:
			if stand > 1 {
				w.takeAndGive(w.any())
			}
		}
	}
}

func TestFewKeysMove(t *testing.T) {
	for _, n := range []int{1, 2, 3, 4, 7, 12, 33, 63, 64} {
		newWalker(t, n).walk(60)
	}
}

func TestFewKeysMoveDownToOneAndUpToFull(t *testing.T) {
	w := newWalker(t, api.MaxPlaces)
	for place := range api.MaxPlaces - 1 {
		w.takeAndGive(place)
		w.take(place)
	}
	for range api.MaxPlaces - 1 {
		w.give()
	}
	if !slices.Equal(w.now, w.were[0]) {
		t.Errorf("P10: all places were given back, and not all keys are where they were")
	}

	w = newWalker(t, 1)
	for range api.MaxPlaces - 1 {
		w.give()
	}
}

func TestTheKeysOfATakenPlaceGoToAllThatStand(t *testing.T) {
	w := newWalker(t, 8)
	for _, place := range []int{3, 0, 7, 5} {
		was := w.now
		w.take(place)
		took := map[int]int{}
		for i, now := range w.now {
			if now != was[i] {
				took[now]++
			}
		}
		if standing := w.pool.Standing(); len(took) != len(standing) {
			t.Errorf("P6: the keys of %d went to %v, of %v", place, took, standing)
		}
	}
}

func TestAJournalThatIsCutOffMakesThePoolAsItWas(t *testing.T) {
	for _, n := range []int{1, 2, 4, 9, 64} {
		w := newWalker(t, n)
		w.walk(25)
		journal := w.pool.Journal()
		if len(journal) != recordSize*len(w.were) {
			t.Fatalf("P8: the journal of %d calls has %d bytes", len(w.were), len(journal))
		}
		for cut := recordSize; cut <= len(journal); cut++ {
			p := wantRecover(t, journal[:cut:cut], cut-cut%recordSize)
			if !slices.Equal(p.Places(w.keys), w.were[cut/recordSize-1]) {
				t.Fatalf("P10: of a journal cut off behind %d bytes: keys go elsewhere than they did", cut)
			}
		}
		wantAlike(t, wantRecover(t, journal, len(journal)), w.pool)
	}
}
