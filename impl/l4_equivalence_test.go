package impl

import (
	"slices"
	"testing"
)

// The assignments are written out: the state is the higher part of the number.
func TestAssignmentsInOrder(t *testing.T) {
	want := []assignment{
		{[]bool{false}, []bool{false, false}},
		{[]bool{false}, []bool{true, false}},
		{[]bool{false}, []bool{false, true}},
		{[]bool{false}, []bool{true, true}},
		{[]bool{true}, []bool{false, false}},
		{[]bool{true}, []bool{true, false}},
		{[]bool{true}, []bool{false, true}},
		{[]bool{true}, []bool{true, true}},
	}
	got := slices.Collect(assignments(Circuit{Inputs: 2, Next: []int{0}}))
	same := func(x assignment, y assignment) bool {
		return slices.Equal(x.state, y.state) && slices.Equal(x.in, y.in)
	}
	if !slices.EqualFunc(got, want, same) {
		t.Errorf("%v, want %v", got, want)
	}
}

func TestNumberOfAssignments(t *testing.T) {
	for inputs := range MaxInputs + 1 {
		for latches := range MaxLatches + 1 {
			count := 0
			for given := range assignments(Circuit{Inputs: inputs, Next: make([]int, latches)}) {
				count++
				if len(given.in) != inputs || len(given.state) != latches {
					t.Errorf("%d inputs and %d latches: %v", inputs, latches, given)
				}
			}
			if count != 1<<(inputs+latches) {
				t.Errorf("%d inputs and %d latches: %d assignments", inputs, latches, count)
			}
		}
	}
}

// An iterator that goes on after the loop has ended would make the program panic.
func TestAssignmentsEndWithTheLoop(t *testing.T) {
	for last := range 8 {
		count := 0
		for range assignments(Circuit{Inputs: 2, Next: []int{0}}) {
			if count == last {
				break
			}
			count++
		}
		if count != last {
			t.Errorf("%d assignments before the last one, want %d", count, last)
		}
	}
}

func TestAssignmentsShareNoMemory(t *testing.T) {
	c := Circuit{Inputs: 2, Next: []int{0, 0}}
	kept := slices.Collect(assignments(c))
	for x, given := range kept {
		if !slices.Equal(given.in, binaryDigits(x, 2)) || !slices.Equal(given.state, binaryDigits(x>>2, 2)) {
			t.Errorf("assignment %d has become %v", x, given)
		}
		// Were a later assignment to share this memory, it would be found changed.
		for _, values := range [][]bool{given.in[:cap(given.in)], given.state[:cap(given.state)]} {
			for i := range values {
				values[i] = !values[i]
			}
		}
	}
}

func TestBinaryDigits(t *testing.T) {
	cases := []struct {
		x     int
		count int
		want  []bool
	}{
		{0, 0, nil}, {5, 0, nil}, {0, 2, []bool{false, false}}, {1, 2, []bool{true, false}},
		{2, 2, []bool{false, true}}, {6, 3, []bool{false, true, true}}, {13, 3, []bool{true, false, true}},
	}
	for _, k := range cases {
		if got := binaryDigits(k.x, k.count); !slices.Equal(got, k.want) {
			t.Errorf("%d digits of %d: %v, want %v", k.count, k.x, got, k.want)
		}
	}
}
