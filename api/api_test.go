package api

import "testing"

func TestErrorsHaveTheirNumbers(t *testing.T) {
	for i, e := range []Errno{OK, ErrArg, ErrNone, ErrLast, ErrFull, ErrText, ErrTime, ErrJournal} {
		if int(e) != i {
			t.Errorf("the error of the number %d has %d", i, e)
		}
	}
}

func TestBoundsHaveTheirNumbers(t *testing.T) {
	got := []int{MaxPlaces, MaxName, MaxFlows, MaxIdle, MaxTime}
	for i, want := range []int{64, 20, 6, 10, 1000000000} {
		if got[i] != want {
			t.Errorf("bound %d is %d, want %d", i, got[i], want)
		}
	}
}
