package recent

import "testing"

func wantHas(t *testing.T, s *Store[string, int], key string, want int) {
	t.Helper()
	if got, ok := s.Get(key); got != want || !ok {
		t.Errorf("Get(%q) = %d, %v, want %d", key, got, ok, want)
	}
}

func wantLacks(t *testing.T, s *Store[string, int], key string) {
	t.Helper()
	if got, ok := s.Get(key); got != 0 || ok {
		t.Errorf("Get(%q) = %d, %v, want nothing", key, got, ok)
	}
}

func three() *Store[string, int] {
	s := New[string, int](3)
	s.Put("a", 1)
	s.Put("b", 2)
	s.Put("c", 3)
	return &s
}

func TestAllThatThereIsRoomForIsRemembered(t *testing.T) {
	s := three()
	wantHas(t, s, "a", 1)
	wantHas(t, s, "b", 2)
	wantHas(t, s, "c", 3)
	wantLacks(t, s, "d")
}

func TestTheFirstOneIsForgotten(t *testing.T) {
	s := three()
	s.Put("d", 4)
	wantLacks(t, s, "a")
	wantHas(t, s, "b", 2)
	wantHas(t, s, "c", 3)
	wantHas(t, s, "d", 4)
}

func TestPutOfAKnownKeyForgetsNoOther(t *testing.T) {
	for i, key := range []string{"a", "b", "c"} {
		s := three()
		s.Put(key, 9)
		for j, other := range []string{"a", "b", "c"} {
			want := j + 1
			if i == j {
				want = 9
			}
			wantHas(t, s, other, want)
		}
	}
}

func TestPutIsAsking(t *testing.T) {
	s := three()
	s.Put("a", 9)
	s.Put("d", 4)
	wantLacks(t, s, "b")
	wantHas(t, s, "a", 9)
}

func TestGetIsAsking(t *testing.T) {
	s := three()
	wantHas(t, s, "a", 1)
	wantHas(t, s, "b", 2)
	s.Put("d", 4)
	wantLacks(t, s, "c")
	s.Put("e", 5)
	wantLacks(t, s, "a")
	wantHas(t, s, "b", 2)
}

func TestGetOfAnUnknownKeyChangesNothing(t *testing.T) {
	s := three()
	wantLacks(t, s, "x")
	s.Put("d", 4)
	wantLacks(t, s, "a")
	wantHas(t, s, "b", 2)
}

func TestAnyComparableKey(t *testing.T) {
	type pair struct{ x, y int }
	s := New[pair, string](1)
	s.Put(pair{1, 2}, "first")
	if got, ok := s.Get(pair{1, 2}); got != "first" || !ok {
		t.Errorf("Get of a pair = %q, %v", got, ok)
	}
	s.Put(pair{2, 1}, "second")
	if got, ok := s.Get(pair{1, 2}); got != "" || ok {
		t.Errorf("Get of a forgotten pair = %q, %v", got, ok)
	}
}
