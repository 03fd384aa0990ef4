package keys

import (
	"math"
	"testing"
)

func TestMixOfKnownNumbers(t *testing.T) {
	for _, c := range []struct{ x, want uint64 }{
		{0, 0},
		{1, 6238072747940578789},
		{2, 15839785061582574730},
		{4, 13232826040865663252},
		{1 << 30, 3143522559155490559},
		{1 << 32, 15573649723082471743},
		{1 << 63, 2720858781877447050},
		{math.MaxUint64, 13029008266876403067},
	} {
		if got := Mix(c.x); got != c.want {
			t.Errorf("P6: Mix(%d) = %d, want %d", c.x, got, c.want)
		}
	}
}

func TestKeysOfKnownFlows(t *testing.T) {
	for _, c := range []struct {
		name string
		want uint64
	}{
		{"a", 12755027158130076170},
		{"new", 1180678579719591808},
		{"\xff\x00", 7629457908322192874},
		{"12345678901234567890", 4643850482749475199},
	} {
		if got := OfFlow(c.name); got != c.want {
			t.Errorf("P7: the key of the flow %q = %d, want %d", c.name, got, c.want)
		}
	}
}
