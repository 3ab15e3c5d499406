package impl

import (
	"slices"
	"testing"
)

// halves is a circuit with two inputs, their conjunction and that of their complements.
func halves() Circuit {
	return Circuit{Inputs: 2, Gates: []Gate{{A: 2, B: 4}, {A: 3, B: 5}}, Outs: []int{6, 8, 2}}
}

func checkOuts(t *testing.T, name string, value evaluation, want ...bool) {
	t.Helper()
	if got := value.step(halves()).Outs; !slices.Equal(got, want) {
		t.Errorf("%s: %v, want %v", name, got, want)
	}
}

// A decorated evaluation can be decorated again, and stays what it was.
func TestSeveralFaults(t *testing.T) {
	correct := evaluationOf(halves(), nil, []bool{true, true})
	first := withFault(correct, Fault{Var: 1, Value: false})
	both := withFault(first, Fault{Var: 2, Value: false})
	again := withFault(first, Fault{Var: 1, Value: true})
	hidden := withFault(both, Fault{Var: 4, Value: false})
	checkOuts(t, "correct", correct, true, false, true)
	checkOuts(t, "first input", first, false, false, false)
	checkOuts(t, "both inputs", both, false, true, false)
	checkOuts(t, "first input, the other way", again, true, false, true)
	checkOuts(t, "both inputs and a gate", hidden, false, false, false)
	checkOuts(t, "first input, once more", first, false, false, false)
	checkOuts(t, "correct, once more", correct, true, false, true)
}

func TestFaultHidesItsVariable(t *testing.T) {
	asked := []int{}
	below := evaluation(func(v int, earlier bitSet) bool {
		asked = append(asked, v)
		return false
	})
	checkOuts(t, "one gate", withFault(below, Fault{Var: 3, Value: true}), true, false, false)
	if !slices.Equal(asked, []int{0, 1, 2, 4}) {
		t.Errorf("asked for %v", asked)
	}
}
