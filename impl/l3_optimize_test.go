package impl

import (
	"slices"
	"testing"
)

// The expected literals are written out for all pairs of the literals of variables 0, 1 and 2; -1 stands for a gate.
func TestSimplifiedPairs(t *testing.T) {
	want := [6][6]literal{
		{0, 0, 0, 0, 0, 0},
		{0, 1, 2, 3, 4, 5},
		{0, 2, 2, 0, -1, -1},
		{0, 3, 0, 3, -1, -1},
		{0, 4, -1, -1, 4, 0},
		{0, 5, -1, -1, 0, 5},
	}
	for x := range literal(6) {
		for y := range literal(6) {
			b := newGateBuilder(3)
			got := b.and(x, y)
			if want[x][y] >= 0 && (got != want[x][y] || len(b.gates) != 0) {
				t.Errorf("%d and %d: literal %d with gates %v, want %d", x, y, got, b.gates, want[x][y])
			}
			gates := []Gate{{A: int(min(x, y)), B: int(max(x, y))}}
			if want[x][y] < 0 && (got != 6 || !slices.Equal(b.gates, gates)) {
				t.Errorf("%d and %d: literal %d with gates %v, want 6 with %v", x, y, got, b.gates, gates)
			}
		}
	}
}

func TestBuilderReusesGates(t *testing.T) {
	b := newGateBuilder(3)
	steps := []struct{ x, y, want literal }{
		{2, 4, 6}, {2, 5, 8}, {4, 2, 6}, {5, 2, 8}, {8, 6, 10}, {6, 8, 10}, {7, 8, 12}, {6, 7, 0}, {2, 4, 6},
	}
	for _, s := range steps {
		if got := b.and(s.x, s.y); got != s.want {
			t.Errorf("%d and %d: literal %d, want %d", s.x, s.y, got, s.want)
		}
	}
	if want := []Gate{{2, 4}, {2, 5}, {6, 8}, {7, 8}}; !slices.Equal(b.gates, want) {
		t.Errorf("gates %v, want %v", b.gates, want)
	}
}

func TestBuildersAreIndependent(t *testing.T) {
	newGateBuilder(3).and(2, 4)
	if got := newGateBuilder(7).and(2, 4); got != 14 {
		t.Errorf("literal %d, want 14", got)
	}
}

func TestRenamingOfComplements(t *testing.T) {
	r := renaming{0, 7, 1}
	lits := []int{0, 1, 2, 3, 4, 5}
	if got := r.ofAll(lits); !slices.Equal(got, []int{0, 1, 7, 6, 1, 0}) {
		t.Error(got)
	}
	if !slices.Equal(lits, []int{0, 1, 2, 3, 4, 5}) {
		t.Error("the argument was changed")
	}
}

func TestReachedVars(t *testing.T) {
	c := Circuit{
		Inputs: 2,
		Next:   []int{9},
		Gates:  []Gate{{A: 2, B: 6}, {A: 2, B: 4}, {A: 8, B: 11}, {A: 10, B: 5}},
		Outs:   []int{14},
	}
	reached := reachedVars(c)
	want := []bool{false, true, true, true, true, true, false, true}
	for v := range want {
		if reached.has(v) != want[v] {
			t.Errorf("variable %d: reached is %t", v, reached.has(v))
		}
	}
}
