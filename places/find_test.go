package places

import (
	"math"
	"slices"
	"testing"

	"porter/api"
)

func setOf(t *testing.T, n int, taken ...int) *Set {
	t.Helper()
	s := New(n)
	for _, place := range taken {
		if e := s.Take(place); e != api.OK {
			t.Fatalf("P5: of %d places, less %v: Take(%d) = %d", n, taken, place, e)
		}
	}
	return &s
}

func TestFindGoesFromRowToRow(t *testing.T) {
	// The rows are 0 1 2 3; 0 3 2; 0 2.
	s := setOf(t, 4, 1, 3)
	for _, c := range []struct {
		want int
		keys []uint64 // all by the same way
	}{
		{0, []uint64{0, 1, 7, 8}},     // by 0 alone
		{2, []uint64{6, 9, 10, 11}},   // by 2 alone
		{0, []uint64{17, 24, 36, 43}}, // by 1, 0
		{2, []uint64{4, 12, 37, 44}},  // by 1, 2
		{0, []uint64{29, 32, 75, 76}}, // by 1, 3, 0
		{2, []uint64{5, 25, 63, 83}},  // by 1, 3, 2
		{0, []uint64{2, 15, 21, 35}},  // by 3, 0
		{2, []uint64{3, 23, 30, 31}},  // by 3, 2
	} {
		for _, key := range c.keys {
			if got := s.Find(key); got != c.want {
				t.Errorf("P6: Find(%d) = %d, want %d", key, got, c.want)
			}
		}
	}
}

func TestFindWhereOneStands(t *testing.T) {
	for only := range api.MaxPlaces {
		s := setOf(t, api.MaxPlaces)
		for place := range api.MaxPlaces {
			if place != only {
				s.Take(place)
			}
		}
		for _, key := range []uint64{0, 1, 42, 1 << 63, math.MaxUint64} {
			if got := s.Find(key); got != only {
				t.Errorf("P6: where %d alone stands, Find(%d) = %d", only, key, got)
			}
		}
	}
}

func TestFindAllIsFindOfEach(t *testing.T) {
	s := setOf(t, 20, 3, 19, 0, 11, 7)
	list := []uint64{}
	want := []int{}
	for n := range 6 * workers {
		if got := s.FindAll(list); !slices.Equal(got, want) {
			t.Fatalf("P6: FindAll of %d keys = %v, want %v", n, got, want)
		}
		key := uint64(n) * 0x9e3779b97f4a7c15
		list = append(list, key)
		want = append(want, s.Find(key))
	}
}
