package places

import (
	"slices"
	"testing"

	"porter/api"
	"porter/keys"
)

// model holds a pool's size and what was taken, and makes the document's rows anew each time.
type model struct {
	size  int
	taken []int
}

// row tells the row behind the first i that were taken.
func (m *model) row(i int) []int {
	row := make([]int, m.size)
	for place := range row {
		row[place] = place
	}
	for _, place := range m.taken[:i] {
		spot := slices.Index(row, place)
		row[spot] = row[len(row)-1]
		row = row[:len(row)-1]
	}
	return row
}

func (m *model) standing() []int {
	row := m.row(len(m.taken))
	slices.Sort(row)
	return row
}

func (m *model) take(place int) api.Errno {
	standing := m.standing()
	switch {
	case !slices.Contains(standing, place):
		return api.ErrNone
	case len(standing) == 1:
		return api.ErrLast
	case len(m.taken) == 0 && place == m.size-1:
		m.size--
	default:
		m.taken = append(m.taken, place)
	}
	return api.OK
}

func (m *model) give() (int, api.Errno) {
	if n := len(m.taken); n > 0 {
		place := m.taken[n-1]
		m.taken = m.taken[:n-1]
		return place, api.OK
	}
	if m.size == api.MaxPlaces {
		return 0, api.ErrFull
	}
	m.size++
	return m.size - 1, api.OK
}

func (m *model) find(key uint64) int {
	place := keys.Jump(key, m.size)
	for slices.Contains(m.taken, place) {
		row := m.row(slices.Index(m.taken, place) + 1)
		place = row[keys.Mix(key^keys.Mix(uint64(place+1)))%uint64(len(row))]
	}
	return place
}

const giveStep = -2

// play does the same steps with a set and with the model, and holds the answers against each other.
func play(t *testing.T, n int, steps []int) {
	t.Helper()
	s, m := New(n), &model{size: n}
	for i, step := range steps {
		if step == giveStep {
			next, nextErr := s.Next()
			got, e := s.Give()
			if next != got || nextErr != e {
				t.Fatalf("P9: of %d places, steps %v: Next() = %d, %d, and Give() = %d, %d", n, steps[:i+1], next, nextErr, got, e)
			}
			if want, wantErr := m.give(); got != want || e != wantErr {
				t.Fatalf("P5: of %d places, steps %v: Give() = %d, %d, want %d, %d", n, steps[:i+1], got, e, want, wantErr)
			}
		} else {
			e := s.Take(step)
			if want := m.take(step); e != want {
				t.Fatalf("P5: of %d places, steps %v: Take(%d) = %d, want %d", n, steps[:i+1], step, e, want)
			}
		}
		if got, want := s.Standing(), m.standing(); !slices.Equal(got, want) {
			t.Fatalf("P5: of %d places, steps %v: Standing() = %v, want %v", n, steps[:i+1], got, want)
		}
		for j := range uint64(4) {
			key := (uint64(i)*4 + j) * 0x9e3779b97f4a7c15
			if got, want := s.Find(key), m.find(key); got != want {
				t.Fatalf("P6: of %d places, steps %v: Find(%d) = %d, want %d", n, steps[:i+1], key, got, want)
			}
		}
		// Whether a place was taken or the size is less, Standing tells the same, and so do many keys.
		if s.size() != m.size || !slices.Equal(s.taken, m.taken) {
			t.Fatalf("P5: of %d places, steps %v: the size is %d, taken are %v, want %d, %v", n, steps[:i+1], s.size(), s.taken, m.size, m.taken)
		}
	}
}

func TestEveryShortWay(t *testing.T) {
	const depth = 5
	choices := []int{giveStep, -1, 0, 1, 2, 3, 4}
	steps := make([]int, depth)
	var walk func(n, at int)
	walk = func(n, at int) {
		if at == depth {
			play(t, n, steps)
			return
		}
		for _, c := range choices {
			steps[at] = c
			walk(n, at+1)
		}
	}
	for n := 1; n <= 4; n++ {
		walk(n, 0)
	}
}

func TestLongWays(t *testing.T) {
	seed := uint64(1)
	next := func(n int) int {
		seed = seed*6364136223846793005 + 1442695040888963407
		return int((seed >> 33) % uint64(n))
	}
	for _, n := range []int{1, 2, 17, 62, 63, 64} {
		// A way leans first to taking, down to the last place, then to giving, up to a full pool.
		steps := []int{}
		for _, takes := range []int{9, 1, 5, 9, 1} {
			for range 600 {
				if next(10) < takes {
					steps = append(steps, next(api.MaxPlaces+2)-1)
				} else {
					steps = append(steps, giveStep)
				}
			}
		}
		play(t, n, steps)
	}
}
