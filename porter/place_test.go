package porter_test

import (
	"math"
	"slices"
	"sync"
	"testing"

	"porter/api"
	"porter/porter"
)

// poolLess makes a pool of n places and takes some away.
func poolLess(t *testing.T, n int, taken ...int) *porter.Pool {
	t.Helper()
	p := newPool(t, n)
	for _, place := range taken {
		wantTake(t, p, place, api.OK)
	}
	return p
}

func wantAsked(t *testing.T, p *porter.Pool, want uint64) {
	t.Helper()
	if got := p.Asked(); got != want {
		t.Errorf("P6: Asked() = %d, want %d", got, want)
	}
}

// manyKeys makes n keys, far apart from each other.
func manyKeys(n int) []uint64 {
	list := make([]uint64, n)
	for i := range list {
		list[i] = uint64(i) * 0x9e3779b97f4a7c15
	}
	return list
}

// placesOneByOne asks for each key by a call of its own.
func placesOneByOne(p *porter.Pool, list []uint64) []int {
	found := []int{}
	for _, key := range list {
		found = append(found, p.Place(key))
	}
	return found
}

var knownKeys = []uint64{0, 1, 2, 7, 42, 1 << 32, 1 << 33, 1 << 63, math.MaxUint64}

func TestPlacesOfKnownKeys(t *testing.T) {
	for _, c := range []struct {
		n     int
		taken []int
		want  []int
	}{
		{1, nil, []int{0, 0, 0, 0, 0, 0, 0, 0, 0}},
		{10, nil, []int{0, 6, 6, 0, 2, 2, 0, 5, 9}},
		{10, []int{9}, []int{0, 6, 6, 0, 2, 2, 0, 5, 7}},
		{10, []int{0}, []int{4, 6, 6, 7, 2, 2, 1, 5, 9}},
		{10, []int{0, 9}, []int{4, 6, 6, 7, 2, 2, 1, 5, 8}},
		{10, []int{9, 0, 8}, []int{5, 6, 6, 7, 2, 2, 3, 5, 7}},
		{10, []int{3, 9, 0, 4}, []int{1, 6, 6, 5, 2, 2, 1, 5, 2}},
		{64, []int{5, 63, 0, 17, 62, 40}, []int{35, 55, 58, 26, 43, 38, 42, 27, 10}},
		{64, upTo(63), []int{63, 63, 63, 63, 63, 63, 63, 63, 63}},
	} {
		p := poolLess(t, c.n, c.taken...)
		if got := placesOneByOne(p, knownKeys); !slices.Equal(got, c.want) {
			t.Errorf("P6: of %d places, less %v: Place of %v = %v, want %v", c.n, c.taken, knownKeys, got, c.want)
		}
		if got := p.Places(knownKeys); !slices.Equal(got, c.want) {
			t.Errorf("P6: of %d places, less %v: Places(%v) = %v, want %v", c.n, c.taken, knownKeys, got, c.want)
		}
	}
}

func TestPlacesOfTheDocumentsExample(t *testing.T) {
	p := poolLess(t, 4, 1, 3)
	for _, c := range []struct {
		key  uint64
		want int
	}{
		{17, 0}, {4, 2}, // by 1
		{29, 0}, {5, 2}, // by 1, then by 3
		{2, 0}, {3, 2}, // by 3
		{0, 0}, {6, 2}, // at once
	} {
		if got := p.Place(c.key); got != c.want {
			t.Errorf("P6: Place(%d) = %d, want %d", c.key, got, c.want)
		}
	}
}

func TestWithNothingTakenPlaceIsJump(t *testing.T) {
	for n := 1; n <= api.MaxPlaces; n++ {
		p := newPool(t, n)
		for _, key := range manyKeys(100) {
			want, _ := porter.Jump(key, n)
			if got := p.Place(key); got != want {
				t.Fatalf("P6: of %d places: Place(%d) = %d, want %d", n, key, got, want)
			}
		}
	}
}

func TestLessTheLastPlaceIsASmallerPool(t *testing.T) {
	list := manyKeys(500)
	less, smaller := poolLess(t, 9, 8, 7), newPool(t, 7)
	if got, want := less.Places(list), smaller.Places(list); !slices.Equal(got, want) {
		t.Errorf("P5: 9 places less the last two send keys to %v, 7 places to %v", got, want)
	}
	wantGive(t, less, 7)
	wantGive(t, smaller, 7)
	if got, want := less.Places(list), smaller.Places(list); !slices.Equal(got, want) {
		t.Errorf("P5: 8 places send keys to %v or to %v", got, want)
	}
}

func TestPlacesOfListsOfEveryLength(t *testing.T) {
	p := poolLess(t, 10, 3, 9, 0, 4)
	list := manyKeys(300)
	want := placesOneByOne(p, list)
	for n := range list {
		if got := p.Places(list[:n]); !slices.Equal(got, want[:n]) {
			t.Fatalf("P6: Places of %d keys = %v, want %v", n, got, want[:n])
		}
	}
	long := manyKeys(100003)
	if got, want := p.Places(long), placesOneByOne(p, long); !slices.Equal(got, want) {
		t.Errorf("P6: Places of %d keys are not those of each key", len(long))
	}
}

func TestPlacesOfNoKeys(t *testing.T) {
	p := newPool(t, 3)
	for _, list := range [][]uint64{nil, {}, make([]uint64, 0, 5)} {
		if got := p.Places(list); len(got) != 0 {
			t.Errorf("P6: Places of no keys = %v", got)
		}
	}
	wantAsked(t, p, 0)
}

func TestPlacesOfOneKeyManyTimes(t *testing.T) {
	p := poolLess(t, 10, 0)
	if got, want := p.Places(make([]uint64, 50)), slices.Repeat([]int{4}, 50); !slices.Equal(got, want) {
		t.Errorf("P6: Places of 50 times 0 = %v, want %v", got, want)
	}
}

func TestKeysAreNotWrittenInto(t *testing.T) {
	p := poolLess(t, 10, 3, 9)
	whole := manyKeys(40)
	p.Places(whole[:30])
	if !slices.Equal(whole, manyKeys(40)) {
		t.Errorf("P2: Places changed the list that it was given, or its spare room")
	}
}

func TestPlacesAreTheCallersOwn(t *testing.T) {
	p := poolLess(t, 10, 3, 9)
	list := manyKeys(30)
	first, second := p.Places(list), p.Places(list)
	want := slices.Clone(second)
	scribble(first)
	clear(list)
	if !slices.Equal(second, want) {
		t.Errorf("P2: writing into one list changed another: %v, want %v", second, want)
	}
	if got := p.Places(manyKeys(30)); !slices.Equal(got, want) {
		t.Errorf("P2: writing into lists changed what the pool answers: %v, want %v", got, want)
	}
	wantStanding(t, p, 0, 1, 2, 4, 5, 6, 7, 8)
}

func TestWhatIsWrittenIntoStandingMovesNoKey(t *testing.T) {
	list := manyKeys(100)
	for _, p := range []*porter.Pool{newPool(t, 5), poolLess(t, 5, 1)} {
		want := p.Places(list)
		scribble(p.Standing())
		if got := p.Places(list); !slices.Equal(got, want) {
			t.Errorf("P2: writing into Standing's list moved keys: %v, want %v", got, want)
		}
	}
}

func TestAskedCountsKeys(t *testing.T) {
	p, other := newPool(t, 5), newPool(t, 5)
	wantAsked(t, p, 0)
	p.Place(7)
	p.Place(7)
	wantAsked(t, p, 2)
	p.Places(manyKeys(100))
	wantAsked(t, p, 102)
	p.Route("a", 1)
	p.Route("a", 1)
	wantAsked(t, p, 104)
	p.Places(nil)
	p.Take(1)
	p.Take(1)
	p.Give()
	p.Standing()
	p.Asked()
	wantAsked(t, p, 104)
	wantAsked(t, other, 0)
}

func TestAskedDoesNotCountErrors(t *testing.T) {
	p := newPool(t, 5)
	p.Route("a", 5)
	p.Route("", 5)
	p.Route("a", -1)
	p.Route("a", 4)
	wantAsked(t, p, 1)
}

func TestAskedByManyAtOnce(t *testing.T) {
	p := poolLess(t, 10, 4)
	list := manyKeys(50)
	want := p.Places(list)
	var group sync.WaitGroup
	for range 8 {
		group.Go(func() {
			for range 100 {
				if got := p.Places(list); !slices.Equal(got, want) {
					t.Errorf("P6: Places by one of many = %v, want %v", got, want)
				}
				p.Place(1)
			}
		})
	}
	group.Wait()
	wantAsked(t, p, 50+8*100*51)
}
