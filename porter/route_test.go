package porter_test

import (
	"math"
	"strings"
	"testing"
	"unsafe"

	"porter/api"
	"porter/porter"
)

// home is where all of these flows go in a pool of 4 places; when it is taken, each goes to its away.
const home = 1

var flows = []struct {
	name string
	away int
}{{"a", 2}, {"c", 2}, {"e", 0}, {"h", 0}, {"i", 2}, {"p", 3}, {"s", 2}}

func wantRoute(t *testing.T, p *porter.Pool, flow string, now, want int) {
	t.Helper()
	if got, e := p.Route(flow, now); got != want || e != api.OK {
		t.Errorf("P7: Route(%q, %d) = %d, %d, want %d", flow, now, got, e, want)
	}
}

func wantNoRoute(t *testing.T, p *porter.Pool, flow string, now int, want api.Errno) {
	t.Helper()
	if got, e := p.Route(flow, now); got != 0 || e != want {
		t.Errorf("P7: Route(%q, %d) = %d, %d, want 0, %d", flow, now, got, e, want)
	}
}

// poolAway makes a pool in which home stands, but the first n flows are remembered as being away, from now on.
func poolAway(t *testing.T, n, now int) *porter.Pool {
	t.Helper()
	p := poolLess(t, 4, home)
	for _, f := range flows[:n] {
		wantRoute(t, p, f.name, now, f.away)
	}
	wantGive(t, p, home)
	return p
}

func TestRouteOfTheDocumentsExample(t *testing.T) {
	p := poolAway(t, 1, 5)
	wantRoute(t, p, "a", 15, 2)
	wantRoute(t, p, "a", 26, home)
	wantNoRoute(t, p, "a", 3, api.ErrTime)
}

func TestNewFlowsGoToTheirKeysPlace(t *testing.T) {
	for _, c := range []struct {
		n, want int
		name    string
	}{
		{1, 0, "a"}, {4, 1, "a"}, {4, 3, "b"}, {4, 0, "f"}, {4, 2, "m"}, {5, 4, "b"}, {8, 7, "b"},
		{5, 4, "\x00"}, {64, 9, "\x00"},
		{5, 2, "\xff\x00"}, {64, 12, "\xff\x00"},
		{5, 3, " "}, {64, 54, "é"},
		{5, 4, "12345678901234567890"}, {64, 20, "12345678901234567890"},
	} {
		wantRoute(t, newPool(t, c.n), c.name, 0, c.want)
	}
	for _, f := range flows {
		wantRoute(t, newPool(t, 4), f.name, 0, home)
		wantRoute(t, poolLess(t, 4, home), f.name, 0, f.away)
	}
}

func TestRouteOfNoName(t *testing.T) {
	p := newPool(t, 5)
	wantRoute(t, p, "a", 7, 1)
	for _, name := range []string{"", strings.Repeat("x", api.MaxName+1), strings.Repeat("é", 11), strings.Repeat("x", 1<<16)} {
		// Whatever the time is: the name is told first.
		for _, now := range []int{math.MinInt, -1, 0, 7, api.MaxTime + 1, math.MaxInt} {
			wantNoRoute(t, p, name, now, api.ErrText)
		}
	}
	wantRoute(t, p, strings.Repeat("é", 10), 7, 3)
}

func TestRouteAtNoTime(t *testing.T) {
	p := newPool(t, 5)
	wantRoute(t, p, "a", 7, 1)
	for _, now := range []int{math.MinInt, math.MinInt32, -1, api.MaxTime + 1, math.MaxInt} {
		wantNoRoute(t, p, "a", now, api.ErrArg)
	}
}

func TestRouteAheadOfItsTime(t *testing.T) {
	p := newPool(t, 5)
	wantRoute(t, p, "a", 0, 1)
	wantRoute(t, p, "a", 0, 1)
	wantRoute(t, p, "a", api.MaxTime-1, 1)
	wantNoRoute(t, p, "a", api.MaxTime-2, api.ErrTime)
	wantRoute(t, p, "a", api.MaxTime, 1)
	wantRoute(t, p, "a", api.MaxTime, 1)
	// The time is the pool's, not the flow's.
	wantNoRoute(t, p, "b", api.MaxTime-1, api.ErrTime)
	wantNoRoute(t, p, "b", 0, api.ErrTime)
	wantRoute(t, p, "b", api.MaxTime, 4)
}

func TestErrorsTellNoTime(t *testing.T) {
	p := newPool(t, 5)
	wantNoRoute(t, p, "", 100, api.ErrText)
	wantNoRoute(t, p, "a", api.MaxTime+1, api.ErrArg)
	wantRoute(t, p, "a", 5, 1)
	wantNoRoute(t, p, "a", 3, api.ErrTime)
	wantNoRoute(t, p, "a", 4, api.ErrTime)
	wantRoute(t, p, "a", 5, 1)
}

func TestErrorsAreNoAsking(t *testing.T) {
	p := poolAway(t, 1, 5)
	wantRoute(t, p, "b", 9, 3)
	wantNoRoute(t, p, "a", 6, api.ErrTime)
	wantRoute(t, p, "a", 16, home) // 11 behind 5, though 10 behind 6

	p = poolAway(t, api.MaxFlows, 5)
	wantNoRoute(t, p, "a", 4, api.ErrTime)
	wantNoRoute(t, p, "a", api.MaxTime+1, api.ErrArg)
	wantRoute(t, p, "b", 5, 3)
	wantRoute(t, p, "a", 5, home) // it was the one to be forgotten still
}

func TestErrorsForgetNothing(t *testing.T) {
	p := poolAway(t, api.MaxFlows, 5)
	wantNoRoute(t, p, "b", 4, api.ErrTime)
	wantNoRoute(t, p, "b", -1, api.ErrArg)
	wantNoRoute(t, p, "", 5, api.ErrText)
	for _, f := range flows[:api.MaxFlows] {
		wantRoute(t, p, f.name, 5, f.away)
	}
}

func TestAFlowStaysAsLongAsItIsNotIdle(t *testing.T) {
	p := poolAway(t, 1, 0)
	for now := 0; now <= 100; now += api.MaxIdle {
		wantRoute(t, p, "a", now, 2)
	}
	wantRoute(t, p, "a", 111, home)

	p = poolAway(t, 1, 0)
	wantRoute(t, p, "a", api.MaxTime, home)
}

func TestOtherFlowsKeepNoFlowFromBeingIdle(t *testing.T) {
	p := poolAway(t, 2, 0)
	wantRoute(t, p, "a", 10, 2)
	wantRoute(t, p, "c", 11, home)
	wantRoute(t, p, "a", 20, 2)
}

func TestAFlowIsRememberedAnewBehindItsIdleTime(t *testing.T) {
	p := poolAway(t, 1, 0)
	wantRoute(t, p, "a", 50, home)
	wantTake(t, p, home, api.OK)
	wantRoute(t, p, "a", 51, 2)
	wantGive(t, p, home)
	wantRoute(t, p, "a", 61, 2)
}

func TestAFlowGoesOnWhenItsPlaceIsTaken(t *testing.T) {
	p := newPool(t, 4)
	wantRoute(t, p, "a", 1, home)
	wantTake(t, p, home, api.OK)
	wantRoute(t, p, "a", 2, 2)
	wantGive(t, p, home)
	wantRoute(t, p, "a", 3, 2) // and stays there

	// The place goes because the size is less.
	p = newPool(t, 4)
	wantRoute(t, p, "b", 1, 3)
	wantTake(t, p, 3, api.OK)
	wantRoute(t, p, "b", 2, 1)
	wantGive(t, p, 3)
	wantRoute(t, p, "b", 12, 1)
	wantRoute(t, p, "b", 23, 3)
}

func TestAFlowStaysWhenItsPlaceIsBackInTime(t *testing.T) {
	p := poolLess(t, 4, home)
	wantRoute(t, p, "a", 1, 2)
	wantTake(t, p, 2, api.OK)
	wantGive(t, p, 2)
	wantGive(t, p, home)
	wantRoute(t, p, "a", 2, 2)
}

func TestAFlowStaysWhenANewPlaceComes(t *testing.T) {
	p := newPool(t, 4)
	wantRoute(t, p, "b", 1, 3)
	wantRoute(t, p, "d", 1, 3)
	wantGive(t, p, 4)
	wantRoute(t, p, "b", 11, 3)
	wantRoute(t, p, "d", 12, 4)
}

func TestWhereFlowsWentIsNothingToKeys(t *testing.T) {
	p := poolAway(t, 1, 0)
	wantRoute(t, p, "a", 1, 2)
	if got := p.Place(12755027158130076170); got != home {
		t.Errorf("P6: Place of the flow's key = %d, want %d", got, home)
	}
}

// The calls are at one time, so that their order alone tells which flow is forgotten.
func TestTheFlowAskedForLongestAgoIsForgotten(t *testing.T) {
	for old := range api.MaxFlows {
		p := poolAway(t, api.MaxFlows, 5)
		for i, f := range flows[:api.MaxFlows] {
			if i != old {
				wantRoute(t, p, f.name, 5, f.away)
			}
		}
		wantRoute(t, p, "b", 5, 3)
		for i, f := range flows[:api.MaxFlows] {
			if i != old {
				wantRoute(t, p, f.name, 5, f.away)
			}
		}
		wantRoute(t, p, flows[old].name, 5, home)
	}
}

func TestSevenFlowsAreTooMany(t *testing.T) {
	p := poolAway(t, len(flows), 5) // the first one is forgotten
	for _, f := range flows[1:] {
		wantRoute(t, p, f.name, 5, f.away)
	}
	wantRoute(t, p, flows[0].name, 5, home) // the second one is forgotten
	wantRoute(t, p, flows[1].name, 5, home)
}

func TestAKnownFlowForgetsNoOther(t *testing.T) {
	for _, again := range flows[:api.MaxFlows] {
		p := poolAway(t, api.MaxFlows, 5)
		for range 3 {
			wantRoute(t, p, again.name, 5, again.away)
		}
		for _, f := range flows[:api.MaxFlows] {
			wantRoute(t, p, f.name, 5, f.away)
		}
	}
}

func TestNamesAreHeldAgainstEachOtherByteByByte(t *testing.T) {
	p := poolAway(t, 1, 5)
	wantRoute(t, p, "A", 5, 1)
	wantRoute(t, p, "a\x00", 5, 0)
	wantRoute(t, p, "aa", 5, 1)
	wantRoute(t, p, "a", 5, 2)
}

func TestTheNameIsNotKeptAsItIs(t *testing.T) {
	p := poolLess(t, 4, home)
	name := []byte("a")
	wantRoute(t, p, unsafe.String(&name[0], 1), 5, 2)
	name[0] = 'e'
	wantGive(t, p, home)
	wantRoute(t, p, "e", 5, home)
	wantRoute(t, p, "a", 5, 2)
}

func TestPoolsKnowNothingOfEachOthersFlows(t *testing.T) {
	p, q := poolAway(t, 1, 500), newPool(t, 4)
	wantRoute(t, q, "a", 5, home)
	wantRoute(t, p, "a", 501, 2)
	wantRoute(t, q, "a", 6, home)
}
