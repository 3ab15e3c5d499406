package impl

import (
	"math/bits"
	"testing"
)

// No circuit has more variables than a word has bits, so only this test sees a second word.
func TestBitSetOfSeveralWords(t *testing.T) {
	size := 2*bits.UintSize + 1
	for v := range size {
		set := newBitSet(size)
		set.add(v)
		set.add(v)
		for other := range size {
			if set.has(other) != (other == v) {
				t.Fatalf("set of %d: has %d is %t", v, other, set.has(other))
			}
		}
	}
}

func TestBitSetSizes(t *testing.T) {
	cases := []struct {
		size  int
		words int
	}{
		{0, 0}, {1, 1}, {bits.UintSize, 1}, {bits.UintSize + 1, 2}, {2 * bits.UintSize, 2},
	}
	for _, k := range cases {
		if got := len(newBitSet(k.size)); got != k.words {
			t.Errorf("size %d: %d words, want %d", k.size, got, k.words)
		}
	}
}

func TestBitSetOfValues(t *testing.T) {
	set := newBitSet(5)
	set.addTrue(1, []bool{true, false, true})
	want := []bool{false, true, true, false, false, true, true, false, false, true}
	for lit, value := range want {
		if set.holds(literal(lit)) != value {
			t.Errorf("literal %d: %t, want %t", lit, !value, value)
		}
	}
}
