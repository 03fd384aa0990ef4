package porter_test

import (
	"math"
	"slices"
	"testing"

	"porter/api"
	"porter/porter"
)

var noSizes = []int{math.MinInt, math.MinInt32, -64, -1, 0, 65, 66, math.MaxInt32, math.MaxInt}

func upTo(n int) []int {
	list := make([]int, n)
	for i := range list {
		list[i] = i
	}
	return list
}

func newPool(t *testing.T, n int) *porter.Pool {
	t.Helper()
	p, e := porter.New(n)
	if p == nil || e != api.OK {
		t.Fatalf("P4: New(%d) = %v, %d", n, p, e)
	}
	return p
}

func wantTake(t *testing.T, p *porter.Pool, place int, want api.Errno) {
	t.Helper()
	if e := p.Take(place); e != want {
		t.Errorf("P5: Take(%d) = %d, want %d", place, e, want)
	}
}

func wantGive(t *testing.T, p *porter.Pool, want int) {
	t.Helper()
	if got, e := p.Give(); got != want || e != api.OK {
		t.Errorf("P5: Give() = %d, %d, want %d", got, e, want)
	}
}

func wantFull(t *testing.T, p *porter.Pool) {
	t.Helper()
	if got, e := p.Give(); got != 0 || e != api.ErrFull {
		t.Errorf("P5: Give() of a full pool = %d, %d, want 0, %d", got, e, api.ErrFull)
	}
}

func wantStanding(t *testing.T, p *porter.Pool, want ...int) {
	t.Helper()
	if got := p.Standing(); !slices.Equal(got, want) {
		t.Errorf("P5: Standing() = %v, want %v", got, want)
	}
}

func TestJumpOfKnownKeys(t *testing.T) {
	sizes := []int{1, 2, 3, 10, 32, 57, 63, 64}
	for _, c := range []struct {
		key  uint64
		want []int
	}{
		{0, []int{0, 0, 0, 0, 0, 0, 0, 0}},
		{1, []int{0, 0, 0, 6, 17, 55, 55, 55}},
		{2, []int{0, 0, 0, 6, 31, 46, 62, 62}},
		{7, []int{0, 0, 0, 0, 26, 26, 26, 26}},
		{42, []int{0, 1, 2, 2, 22, 43, 43, 43}},
		{1 << 32, []int{0, 1, 2, 2, 27, 27, 62, 62}},
		{1 << 33, []int{0, 0, 0, 0, 16, 42, 42, 42}},
		{1 << 63, []int{0, 1, 1, 5, 27, 27, 27, 27}},
		{math.MaxUint64, []int{0, 1, 2, 9, 10, 10, 10, 10}},
	} {
		for i, n := range sizes {
			if got, e := porter.Jump(c.key, n); got != c.want[i] || e != api.OK {
				t.Errorf("P3: Jump(%d, %d) = %d, %d, want %d", c.key, n, got, e, c.want[i])
			}
		}
	}
}

func TestJumpOfNoSize(t *testing.T) {
	for _, key := range []uint64{0, 42, math.MaxUint64} {
		for _, n := range noSizes {
			if got, e := porter.Jump(key, n); got != 0 || e != api.ErrArg {
				t.Errorf("P3: Jump(%d, %d) = %d, %d, want 0, %d", key, n, got, e, api.ErrArg)
			}
		}
	}
}

func TestJumpMovesToTheNewPlaceAlone(t *testing.T) {
	for i := range uint64(1000) {
		key := i * 0x9e3779b97f4a7c15
		was := 0
		for n := 1; n <= api.MaxPlaces; n++ {
			got, e := porter.Jump(key, n)
			if e != api.OK || got != was && got != n-1 {
				t.Fatalf("P3: Jump(%d, %d) = %d, %d, behind %d", key, n, got, e, was)
			}
			was = got
		}
	}
}

func TestNewOfEverySize(t *testing.T) {
	for n := 1; n <= api.MaxPlaces; n++ {
		wantStanding(t, newPool(t, n), upTo(n)...)
	}
}

func TestNewOfNoSize(t *testing.T) {
	for _, n := range noSizes {
		if p, e := porter.New(n); p != nil || e != api.ErrArg {
			t.Errorf("P4: New(%d) = %v, %d, want nil, %d", n, p, e, api.ErrArg)
		}
	}
}

func TestTheDocumentsExamples(t *testing.T) {
	p := newPool(t, 4)
	wantTake(t, p, 1, api.OK)
	wantTake(t, p, 3, api.OK)
	wantStanding(t, p, 0, 2)
	wantGive(t, p, 3)
	wantGive(t, p, 1)
	wantGive(t, p, 4)
	wantStanding(t, p, 0, 1, 2, 3, 4)

	p = newPool(t, 3)
	wantTake(t, p, 2, api.OK)
	wantStanding(t, p, 0, 1)
	wantGive(t, p, 2)
	wantTake(t, p, 7, api.ErrNone)

	wantTake(t, newPool(t, 1), 0, api.ErrLast)
}

func TestTheLastPlaceIsTakenOnlyBehindAnother(t *testing.T) {
	p := newPool(t, 5)
	wantTake(t, p, 4, api.OK) // the size is 4 now, and 4 is no place
	wantTake(t, p, 4, api.ErrNone)
	wantTake(t, p, 1, api.OK)
	wantTake(t, p, 3, api.OK) // something is taken, so the size stays
	wantStanding(t, p, 0, 2)
	wantGive(t, p, 3)
	wantGive(t, p, 1)
	wantGive(t, p, 4)
	wantGive(t, p, 5)
}

func TestStandingIsInOrderHoweverPlacesWent(t *testing.T) {
	p := newPool(t, 6)
	wantTake(t, p, 0, api.OK)
	wantStanding(t, p, 1, 2, 3, 4, 5)
	wantTake(t, p, 2, api.OK)
	wantStanding(t, p, 1, 3, 4, 5)
	wantGive(t, p, 2)
	wantGive(t, p, 0)
	wantStanding(t, p, 0, 1, 2, 3, 4, 5)
}

func TestDownToOneAndUpToFull(t *testing.T) {
	p := newPool(t, api.MaxPlaces)
	wantFull(t, p)
	for place := range api.MaxPlaces - 1 {
		wantTake(t, p, place, api.OK)
	}
	wantStanding(t, p, 63)
	wantTake(t, p, 63, api.ErrLast)
	for place := api.MaxPlaces - 2; place >= 0; place-- {
		wantGive(t, p, place)
	}
	wantFull(t, p)

	for place := api.MaxPlaces - 1; place > 0; place-- {
		wantTake(t, p, place, api.OK)
	}
	wantTake(t, p, 0, api.ErrLast)
	for place := 1; place < api.MaxPlaces; place++ {
		wantGive(t, p, place)
	}
	wantFull(t, p)
	wantStanding(t, p, upTo(api.MaxPlaces)...)
}

func TestTheFirstErrorIsTold(t *testing.T) {
	// One place stands: what is no place at all, or is taken, is told ahead of ErrLast.
	p := newPool(t, 2)
	wantTake(t, p, 0, api.OK)
	for _, place := range []int{math.MinInt, -1, 0, 2, 64, math.MaxInt} {
		wantTake(t, p, place, api.ErrNone)
	}
	wantTake(t, p, 1, api.ErrLast)
}

func TestNothingChangesWithAnError(t *testing.T) {
	p := newPool(t, 4)
	wantTake(t, p, 2, api.OK)
	wantTake(t, p, 0, api.OK)
	for _, place := range []int{math.MinInt, -1, 0, 2, 4, 64, math.MaxInt} {
		wantTake(t, p, place, api.ErrNone)
		wantStanding(t, p, 1, 3)
	}
	wantTake(t, p, 3, api.OK)
	wantTake(t, p, 1, api.ErrLast)
	wantStanding(t, p, 1)
	wantGive(t, p, 3)
	wantGive(t, p, 0)
	wantGive(t, p, 2)
	wantGive(t, p, 4)

	p = newPool(t, api.MaxPlaces)
	wantFull(t, p)
	wantFull(t, p)
	wantTake(t, p, 64, api.ErrNone)
	wantStanding(t, p, upTo(api.MaxPlaces)...)
	wantTake(t, p, 63, api.OK)
	wantGive(t, p, 63)
}

// scribble writes over a whole list, its spare room too.
func scribble(list []int) {
	list = list[:cap(list)]
	for i := range list {
		list[i] = -7
	}
}

func TestStandingIsTheCallersOwn(t *testing.T) {
	p := newPool(t, 5)
	wantTake(t, p, 1, api.OK)
	first, second := p.Standing(), p.Standing()
	scribble(first)
	if !slices.Equal(second, []int{0, 2, 3, 4}) {
		t.Errorf("P2: writing into one list changed another: %v", second)
	}
	wantStanding(t, p, 0, 2, 3, 4)

	wantTake(t, p, 3, api.OK)
	wantGive(t, p, 3)
	wantGive(t, p, 1)
	if !slices.Equal(second, []int{0, 2, 3, 4}) {
		t.Errorf("P2: the pool's calls changed a list that it gave out: %v", second)
	}
	wantStanding(t, p, 0, 1, 2, 3, 4)
}

func TestPoolsKnowNothingOfEachOther(t *testing.T) {
	p, q := newPool(t, 4), newPool(t, 4)
	wantTake(t, p, 1, api.OK)
	wantTake(t, q, 0, api.OK)
	wantTake(t, q, 2, api.OK)
	wantTake(t, p, 3, api.OK)
	wantStanding(t, p, 0, 2)
	wantStanding(t, q, 1, 3)
	wantStanding(t, newPool(t, 4), 0, 1, 2, 3)
	wantGive(t, q, 2)
	wantGive(t, p, 3)
	wantGive(t, q, 0)
	wantGive(t, p, 1)
}
