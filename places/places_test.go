package places

import (
	"slices"
	"testing"

	"porter/api"
)

// model holds the document's rows themselves: what stands is the last row.
type model struct {
	rows  [][]int
	taken []int
}

func newModel(n int) *model {
	m := &model{rows: [][]int{{}}}
	for place := range n {
		m.rows[0] = append(m.rows[0], place)
	}
	return m
}

func (m *model) last() []int { return m.rows[len(m.rows)-1] }

func (m *model) take(place int) api.Errno {
	spot := slices.Index(m.last(), place)
	switch {
	case spot < 0:
		return api.ErrNone
	case len(m.last()) == 1:
		return api.ErrLast
	case len(m.rows) == 1 && spot == len(m.last())-1:
		m.rows[0] = m.rows[0][:spot]
		return api.OK
	}
	row := slices.Clone(m.last())
	row[spot] = row[len(row)-1]
	m.rows = append(m.rows, row[:len(row)-1])
	m.taken = append(m.taken, place)
	return api.OK
}

func (m *model) give() (int, api.Errno) {
	if n := len(m.taken); n > 0 {
		place := m.taken[n-1]
		m.taken = m.taken[:n-1]
		m.rows = m.rows[:n]
		return place, api.OK
	}
	n := len(m.rows[0])
	if n == api.MaxPlaces {
		return 0, api.ErrFull
	}
	m.rows[0] = append(slices.Clone(m.rows[0]), n)
	return n, api.OK
}

func (m *model) standing() []int { return slices.Sorted(slices.Values(m.last())) }

const giveStep = -2

// play does the same steps with a set and with the model, and holds the answers against each other.
func play(t *testing.T, n int, steps []int) {
	t.Helper()
	s, m := New(n), newModel(n)
	for i, step := range steps {
		if step == giveStep {
			got, e := s.Give()
			if want, wantErr := m.give(); got != want || e != wantErr {
				t.Fatalf("P5: of %d places, steps %v: Give() = %d, %d, want %d, %d", n, steps[:i+1], got, e, want, wantErr)
			}
		} else {
			e := s.Take(step)
			if want := m.take(step); e != want {
				t.Fatalf("P5: of %d places, steps %v: Take(%d) = %d, want %d", n, steps[:i+1], step, e, want)
			}
		}
		if got, want := s.Standing(), m.standing(); !slices.Equal(got, want) {
			t.Fatalf("P5: of %d places, steps %v: Standing() = %v, want %v", n, steps[:i+1], got, want)
		}
		// Whether a place was taken or the size is less, Standing tells the same; keys go elsewhere.
		if s.size != len(m.rows[0]) || !slices.Equal(s.taken, m.taken) {
			t.Fatalf("P5: of %d places, steps %v: the size is %d, taken are %v, want %d, %v", n, steps[:i+1], s.size, s.taken, len(m.rows[0]), m.taken)
		}
	}
}

func TestEveryShortWay(t *testing.T) {
	const depth = 5
	choices := []int{giveStep, -1, 0, 1, 2, 3, 4}
	steps := make([]int, depth)
	var walk func(n, at int)
	walk = func(n, at int) {
		if at == depth {
			play(t, n, steps)
			return
		}
		for _, c := range choices {
			steps[at] = c
			walk(n, at+1)
		}
	}
	for n := 1; n <= 4; n++ {
		walk(n, 0)
	}
}

func TestLongWays(t *testing.T) {
	seed := uint64(1)
	next := func(n int) int {
		seed = seed*6364136223846793005 + 1442695040888963407
		return int((seed >> 33) % uint64(n))
	}
	for _, n := range []int{1, 2, 17, 62, 63, 64} {
		// A way leans first to taking, down to the last place, then to giving, up to a full pool.
		steps := []int{}
		for _, takes := range []int{9, 1, 5, 9, 1} {
			for range 600 {
				if next(10) < takes {
					steps = append(steps, next(api.MaxPlaces+2)-1)
				} else {
					steps = append(steps, giveStep)
				}
			}
		}
		play(t, n, steps)
	}
}
