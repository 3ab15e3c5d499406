package impl

import (
	"math"
	"testing"
)

func TestLiteralVar(t *testing.T) {
	cases := []struct {
		lit  literal
		want int
	}{
		{0, 0}, {1, 0}, {2, 1}, {3, 1}, {42, 21}, {43, 21},
		{-1, -1}, {-2, -1}, {-3, -2},
		{math.MaxInt, math.MaxInt / 2}, {math.MinInt, math.MinInt / 2},
	}
	for _, k := range cases {
		if got := k.lit.Var(); got != k.want {
			t.Errorf("literal %d: variable %d, want %d", k.lit, got, k.want)
		}
	}
}

func TestLiteralComplement(t *testing.T) {
	for lit := literal(0); lit < 44; lit++ {
		other := lit.Complement()
		if other == lit || other.Var() != lit.Var() || other.Complement() != lit {
			t.Errorf("literal %d: complement %d", lit, other)
		}
	}
}
