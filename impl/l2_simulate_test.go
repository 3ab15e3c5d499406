package impl

import (
	"math/bits"
	"slices"
	"testing"
)

// No circuit has more variables than a word has bits, so only this test sees a second word.
func TestBitSetOfSeveralWords(t *testing.T) {
	size := 2*bits.UintSize + 1
	for v := range size {
		set := newBitSet(size)
		set.add(v)
		set.add(v)
		for other := range size {
			if set.has(other) != (other == v) {
				t.Fatalf("set of %d: has %d is %t", v, other, set.has(other))
			}
		}
	}
}

func TestBitSetSizes(t *testing.T) {
	cases := []struct {
		size  int
		words int
	}{
		{0, 0}, {1, 1}, {bits.UintSize, 1}, {bits.UintSize + 1, 2}, {2 * bits.UintSize, 2},
	}
	for _, k := range cases {
		if got := len(newBitSet(k.size)); got != k.words {
			t.Errorf("size %d: %d words, want %d", k.size, got, k.words)
		}
	}
}

func TestBitSetOfValues(t *testing.T) {
	set := newBitSet(5)
	set.add(1)
	set.add(3)
	want := []bool{false, true, true, false, false, true, true, false, false, true}
	for lit, value := range want {
		if set.holds(literal(lit)) != value {
			t.Errorf("literal %d: %t, want %t", lit, !value, value)
		}
	}
}

// Every variable is asked for once, in order, when those before it are settled.
func TestOrderOfEvaluation(t *testing.T) {
	c := Circuit{Inputs: 1, Next: []int{9}, Gates: []Gate{{A: 2, B: 4}, {A: 0, B: 0}}, Outs: []int{6, 2, 1}}
	asked := 0
	odd := evaluation(func(v int, earlier bitSet) bool {
		if v != asked {
			t.Errorf("asked for variable %d, want %d", v, asked)
		}
		for before := range v {
			if earlier.has(before) != (before%2 == 1) {
				t.Errorf("variable %d sees %d as %t", v, before, earlier.has(before))
			}
		}
		asked++
		return v%2 == 1
	})
	result := odd.step(c)
	if asked != 5 {
		t.Errorf("asked %d times", asked)
	}
	if !slices.Equal(result.Outs, []bool{true, true, true}) || !slices.Equal(result.State, []bool{true}) {
		t.Error(result)
	}
}
