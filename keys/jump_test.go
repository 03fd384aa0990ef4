package keys

import (
	"math/big"
	"testing"

	"porter/api"
)

// slowJump is Jump word by word, in numbers without a bound, cut where the document cuts.
func slowJump(key uint64, n int) int {
	k := new(big.Int).SetUint64(key)
	word := new(big.Int).Lsh(big.NewInt(1), 64)
	b, j := int64(0), int64(0)
	for j < int64(n) {
		b = j
		k.Mul(k, big.NewInt(2862933555777941757))
		k.Add(k, big.NewInt(1))
		k.Mod(k, word)
		divisor := new(big.Int).Rsh(k, 33)
		divisor.Add(divisor, big.NewInt(1))
		top := new(big.Int).Mul(big.NewInt(b+1), big.NewInt(1<<31))
		j = top.Quo(top, divisor).Int64()
	}
	return int(b)
}

func TestJumpAsTheDocumentReckons(t *testing.T) {
	key := uint64(0)
	for range 500 {
		for n := 1; n <= api.MaxPlaces; n++ {
			if got, want := Jump(key, n), slowJump(key, n); got != want {
				t.Fatalf("P3: Jump(%d, %d) = %d, want %d", key, n, got, want)
			}
		}
		key = key*6364136223846793005 + 1442695040888963407
	}
}

func TestJumpCutsOffWholeNumbers(t *testing.T) {
	// Behind place 48 the quotient is just 64; reckoned in floats it falls to 63.
	for _, key := range []uint64{3675368174133493706, 10549516143362481215, 16395421765241851801} {
		if got := Jump(key, 64); got != 48 {
			t.Errorf("P3: Jump(%d, 64) = %d, want 48", key, got)
		}
	}
}

func TestJumpAtTheEdgesOfTheDivisor(t *testing.T) {
	for _, c := range []struct {
		key  uint64
		n    int
		want int
	}{
		{2313046976756913067, 64, 0},  // the first divisor is 1: as far as can be
		{17068571456203592619, 2, 1},  // 2^31: just one place on
		{4674665281679987627, 64, 0},  // 2^25: to 64, which is not below 64
		{8365884875942859691, 64, 63}, // 2^25 + 1: to 63
		{8365884875942859691, 63, 0},
	} {
		if got := Jump(c.key, c.n); got != c.want {
			t.Errorf("P3: Jump(%d, %d) = %d, want %d", c.key, c.n, got, c.want)
		}
	}
}
