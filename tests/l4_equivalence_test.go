package tests

import (
	"math"
	"reflect"
	"slices"
	"testing"

	"loop.example/fpgatoolchain/impl"
)

type circuitPair struct {
	name string
	a    impl.Circuit
	b    impl.Circuit
}

// exchanged returns c with the operands of every gate exchanged.
func exchanged(c impl.Circuit) impl.Circuit {
	c = copyOf(c)
	for i, g := range c.Gates {
		c.Gates[i] = impl.Gate{A: g.B, B: g.A}
	}
	return c
}

// withInputs is a circuit without latches: its first gate is variable 1+inputs.
func withInputs(inputs int, outs []int, gates ...impl.Gate) impl.Circuit {
	return impl.Circuit{Inputs: inputs, Gates: gates, Outs: outs}
}

// equivalentWithoutLatches are pairs of different form that compute the same outputs.
func equivalentWithoutLatches() []circuitPair {
	and := impl.Gate{A: 2, B: 4}
	return []circuitPair{
		{"exchanged operands", withInputs(2, []int{6}, and), withInputs(2, []int{6}, impl.Gate{A: 4, B: 2})},
		{"exclusive or", withInputs(2, []int{10}, and, impl.Gate{A: 3, B: 5}, impl.Gate{A: 7, B: 9}), withInputs(2, []int{11}, impl.Gate{A: 2, B: 5}, impl.Gate{A: 3, B: 4}, impl.Gate{A: 7, B: 9})},
		{"absorption", withInputs(2, []int{9}, and, impl.Gate{A: 3, B: 7}), withInputs(2, []int{2})},
		{"distribution", withInputs(3, []int{10}, impl.Gate{A: 5, B: 7}, impl.Gate{A: 2, B: 9}), withInputs(3, []int{13}, and, impl.Gate{A: 2, B: 6}, impl.Gate{A: 9, B: 11})},
		{"consensus", withInputs(3, []int{13}, and, impl.Gate{A: 3, B: 6}, impl.Gate{A: 9, B: 11}), withInputs(3, []int{17}, and, impl.Gate{A: 3, B: 6}, impl.Gate{A: 4, B: 6}, impl.Gate{A: 9, B: 11}, impl.Gate{A: 13, B: 14})},
		{"chain and tree", withInputs(4, []int{14}, and, impl.Gate{A: 10, B: 6}, impl.Gate{A: 12, B: 8}), withInputs(4, []int{14}, and, impl.Gate{A: 6, B: 8}, impl.Gate{A: 10, B: 12})},
		{"false", withInputs(2, []int{8}, and, impl.Gate{A: 6, B: 3}), withInputs(2, []int{0})},
		{"true", withInputs(2, []int{9}, and, impl.Gate{A: 6, B: 3}), withInputs(2, []int{1})},
		{"gates that nothing uses", withInputs(2, []int{8}, impl.Gate{A: 3, B: 5}, and), withInputs(2, []int{6}, and)},
		{"several outputs", withInputs(2, []int{6, 2, 7}, and), withInputs(2, []int{8, 6, 9}, impl.Gate{A: 2, B: 1}, impl.Gate{A: 4, B: 6})},
		{"no inputs", withInputs(0, []int{2, 3}, impl.Gate{A: 0, B: 1}), withInputs(0, []int{0, 1})},
		{"no outputs", withInputs(2, nil, and), withInputs(2, []int{}, impl.Gate{A: 3, B: 5}, impl.Gate{A: 6, B: 6})},
		{"nothing but gates", withInputs(0, nil, impl.Gate{A: 1, B: 1}), withInputs(0, nil)},
		{"nil and empty slices", impl.Circuit{}, impl.Circuit{Next: []int{}, Gates: []impl.Gate{}, Outs: []int{}}},
	}
}

// equivalentWithLatches are pairs of different form that compute the same outputs and next states.
func equivalentWithLatches() []circuitPair {
	other := impl.Circuit{Inputs: 1, Next: []int{11}, Gates: []impl.Gate{{A: 2, B: 5}, {A: 3, B: 4}, {A: 7, B: 9}}, Outs: []int{4}}
	return []circuitPair{
		{"counter", counter(), other},
		{"latch that stays 1", impl.Circuit{Inputs: 1, Next: []int{7}, Gates: []impl.Gate{{A: 3, B: 5}}, Outs: []int{4}}, impl.Circuit{Inputs: 1, Next: []int{9}, Gates: []impl.Gate{{A: 3, B: 4}, {A: 3, B: 7}}, Outs: []int{4}}},
		{"toggle without inputs", impl.Circuit{Next: []int{3}, Outs: []int{2}}, impl.Circuit{Next: []int{4}, Gates: []impl.Gate{{A: 3, B: 3}}, Outs: []int{2}}},
		{"no outputs", impl.Circuit{Inputs: 1, Next: []int{6}, Gates: []impl.Gate{{A: 2, B: 4}}}, impl.Circuit{Inputs: 1, Next: []int{8}, Gates: []impl.Gate{{A: 4, B: 1}, {A: 6, B: 2}}}},
		{"neither inputs nor outputs", impl.Circuit{Next: []int{4, 3}}, impl.Circuit{Next: []int{9, 6}, Gates: []impl.Gate{{A: 3, B: 1}, {A: 5, B: 5}}}},
		{"output of a next state", impl.Circuit{Inputs: 1, Next: []int{6}, Gates: []impl.Gate{{A: 2, B: 5}}, Outs: []int{7}}, impl.Circuit{Inputs: 1, Next: []int{6}, Gates: []impl.Gate{{A: 5, B: 2}, {A: 2, B: 6}}, Outs: []int{9}}},
	}
}

// equivalentAtLimits are pairs in which some number is as large as it may be.
func equivalentAtLimits() []circuitPair {
	inputs := impl.Circuit{Inputs: impl.MaxInputs, Outs: []int{2 * impl.MaxInputs}}
	latches := impl.Circuit{Next: []int{3, 2, 2 * impl.MaxLatches}, Outs: []int{7}}
	outputs := impl.Circuit{Inputs: 1, Outs: []int{2, 3, 1}}
	return []circuitPair{
		{"most inputs", inputs, withLastGate(impl.Circuit{Inputs: impl.MaxInputs, Outs: []int{2*impl.MaxInputs + 2}}, impl.Gate{A: 1, B: 2 * impl.MaxInputs})},
		{"most latches", latches, withLastGate(impl.Circuit{Next: []int{3, 2, 8}, Outs: []int{9}}, impl.Gate{A: 6, B: 6})},
		{"most gates", chain(), impl.Circuit{Inputs: 1, Outs: []int{2}}},
		{"most outputs", outputs, withLastGate(impl.Circuit{Inputs: 1, Outs: []int{2, 4, 1}}, impl.Gate{A: 3, B: 3})},
		{"all limits and no gates", full(), impl.Circuit{Inputs: impl.MaxInputs, Next: []int{0, 0, 1}, Outs: []int{0, 0, 0}}},
		{"all limits, dense", dense(), exchanged(dense())},
		{"all limits, normal form", fullNormal(), exchanged(fullNormal())},
	}
}

func equivalentPairs() []circuitPair {
	return slices.Concat(equivalentWithoutLatches(), equivalentWithLatches(), equivalentAtLimits())
}

// differentPair is a pair with the assignment that must be found.
type differentPair struct {
	circuitPair
	state []bool
	in    []bool
}

// numbered makes a differentPair whose first difference is the assignment x.
func numbered(name string, a impl.Circuit, b impl.Circuit, x int) differentPair {
	return differentPair{circuitPair{name, a, b}, bitsOf(x>>a.Inputs, len(a.Next)), bitsOf(x, a.Inputs)}
}

// differentOutputs are pairs without latches; the assignments are written out.
func differentOutputs() []differentPair {
	and, nor := impl.Gate{A: 2, B: 4}, impl.Gate{A: 3, B: 5}
	none := withInputs(2, []int{0})
	pair := func(name string, a impl.Circuit, b impl.Circuit, in ...bool) differentPair {
		return differentPair{circuitPair{name, a, b}, nil, in}
	}
	return []differentPair{
		pair("the first assignment only", none, withInputs(2, []int{6}, nor), false, false),
		pair("the second assignment only", none, withInputs(2, []int{6}, impl.Gate{A: 2, B: 5}), true, false),
		pair("the third assignment only", none, withInputs(2, []int{6}, impl.Gate{A: 3, B: 4}), false, true),
		pair("the last assignment only", none, withInputs(2, []int{6}, and), true, true),
		pair("the first input", none, withInputs(2, []int{2}), true, false),
		pair("the second input", none, withInputs(2, []int{4}), false, true),
		pair("either input", none, withInputs(2, []int{7}, nor), true, false),
		pair("the two inputs", withInputs(2, []int{2}), withInputs(2, []int{4}), true, false),
		pair("all assignments", withInputs(2, []int{2}), withInputs(2, []int{3}), false, false),
		pair("or and exclusive or", withInputs(2, []int{7}, nor), withInputs(2, []int{10}, and, nor, impl.Gate{A: 7, B: 9}), true, true),
		pair("the first output only", withInputs(2, []int{6, 2, 4}, and), withInputs(2, []int{0, 2, 4}), true, true),
		pair("the second output only", withInputs(2, []int{2, 6, 4}, and), withInputs(2, []int{2, 0, 4}), true, true),
		pair("the last output only", withInputs(2, []int{2, 4, 6}, and), withInputs(2, []int{2, 4, 0}), true, true),
		pair("a later output first", withInputs(2, []int{0, 0}), withInputs(2, []int{4, 2}), true, false),
		pair("outputs exchanged", withInputs(2, []int{2, 4}), withInputs(2, []int{4, 2}), true, false),
		pair("no inputs", withInputs(0, []int{0}), withInputs(0, []int{1})),
		pair("no inputs, the last output", withInputs(0, []int{0, 1, 1}), withInputs(0, []int{0, 1, 0})),
	}
}

// differentStates are pairs with latches; the assignments are written out.
func differentStates() []differentPair {
	one, two := []bool{true}, []bool{true, true}
	hold := impl.Circuit{Next: []int{2}, Outs: []int{2}}
	disabled := counter()
	disabled.Next = []int{4}
	wired := impl.Circuit{Inputs: 1, Next: []int{0, 0}, Outs: []int{0, 0}}
	return []differentPair{
		{circuitPair{"the next state only", counter(), disabled}, []bool{false}, one},
		{circuitPair{"a toggle and a latch", impl.Circuit{Next: []int{3}, Outs: []int{2}}, hold}, []bool{false}, nil},
		// All runs agree, because the latch stays 0, but the functions do not.
		{circuitPair{"a state that no run reaches", hold, impl.Circuit{Next: []int{2}, Outs: []int{0}}}, one, nil},
		{circuitPair{"the first next state", wired, impl.Circuit{Inputs: 1, Next: []int{2, 0}, Outs: []int{0, 0}}}, []bool{false, false}, one},
		{circuitPair{"the last next state", wired, impl.Circuit{Inputs: 1, Next: []int{0, 6}, Outs: []int{0, 0}}}, []bool{false, true}, []bool{false}},
		{circuitPair{"the last output of the first latch", wired, impl.Circuit{Inputs: 1, Next: []int{0, 0}, Outs: []int{0, 4}}}, []bool{true, false}, []bool{false}},
		{circuitPair{"the last assignment only", wired, impl.Circuit{Inputs: 1, Next: []int{10, 0}, Gates: []impl.Gate{{A: 2, B: 4}, {A: 6, B: 8}}, Outs: []int{0, 0}}}, two, one},
		{circuitPair{"the first assignment only", wired, impl.Circuit{Inputs: 1, Next: []int{0, 10}, Gates: []impl.Gate{{A: 3, B: 5}, {A: 7, B: 8}}, Outs: []int{0, 0}}}, []bool{false, false}, []bool{false}},
		{circuitPair{"a next state before an output", wired, impl.Circuit{Inputs: 1, Next: []int{0, 2}, Outs: []int{4, 0}}}, []bool{false, false}, one},
		{circuitPair{"an output before a next state", wired, impl.Circuit{Inputs: 1, Next: []int{4, 0}, Outs: []int{0, 2}}}, []bool{false, false}, one},
		{circuitPair{"an input comes before a latch", wired, impl.Circuit{Inputs: 1, Next: []int{9, 0}, Gates: []impl.Gate{{A: 3, B: 7}}, Outs: []int{0, 0}}}, []bool{false, false}, one},
		{circuitPair{"neither inputs nor outputs", impl.Circuit{Next: []int{4, 0}}, impl.Circuit{Next: []int{4, 2}}}, []bool{true, false}, nil},
	}
}

// differentAtLimits are pairs in which some number is as large as it may be.
func differentAtLimits() []differentPair {
	last := dense()
	last.Outs[impl.MaxOutputs-1] ^= 1
	next := dense()
	next.Next[impl.MaxLatches-1] ^= 1
	all := 1<<(impl.MaxInputs+impl.MaxLatches) - 1
	return []differentPair{
		numbered("most inputs", impl.Circuit{Inputs: impl.MaxInputs, Outs: []int{0}}, impl.Circuit{Inputs: impl.MaxInputs, Outs: []int{2 * impl.MaxInputs}}, 1<<(impl.MaxInputs-1)),
		numbered("most latches", impl.Circuit{Next: []int{0, 0, 0}}, impl.Circuit{Next: []int{0, 0, 2 * impl.MaxLatches}}, 1<<(impl.MaxLatches-1)),
		numbered("most gates", chain(), impl.Circuit{Inputs: 1, Outs: []int{0}}, 1),
		numbered("most outputs", impl.Circuit{Inputs: 1, Outs: []int{2, 3, 1}}, impl.Circuit{Inputs: 1, Outs: []int{2, 3, 3}}, 1),
		numbered("all limits, the last output", dense(), last, 0),
		numbered("all limits, the last next state", dense(), next, 0),
		numbered("all limits, the last assignment", trueAt(impl.MaxInputs, impl.MaxLatches, 0), trueAt(impl.MaxInputs, impl.MaxLatches, 0, all), all),
	}
}

func differentPairs() []differentPair {
	return slices.Concat(differentOutputs(), differentStates(), differentAtLimits())
}

// allPlaces is the number of outputs and next states of trueAt.
func allPlaces(latches int) int {
	return impl.MaxOutputs + latches
}

// trueAt is a circuit with all outputs, of which one output or next state, the place, is true for these assignments, at most two, and all others are false. Outputs are places before next states.
func trueAt(inputs int, latches int, place int, numbers ...int) impl.Circuit {
	c := impl.Circuit{Inputs: inputs, Next: make([]int, latches), Outs: make([]int, impl.MaxOutputs)}
	lit := 0
	for _, x := range numbers {
		term := conjunction(&c, x)
		if lit == 0 {
			lit = term
		} else {
			lit = addGate(&c, lit^1, term^1) ^ 1
		}
	}
	if place < impl.MaxOutputs {
		c.Outs[place] = lit
	} else {
		c.Next[place-impl.MaxOutputs] = lit
	}
	return c
}

func addGate(c *impl.Circuit, a int, b int) int {
	c.Gates = append(c.Gates, impl.Gate{A: a, B: b})
	return 2 * (c.Inputs + len(c.Next) + len(c.Gates))
}

// conjunction adds gates for a literal that is true for the assignment x only: digit i of x belongs to variable 1+i.
func conjunction(c *impl.Circuit, x int) int {
	lit := 1
	for i := range c.Inputs + len(c.Next) {
		own := 2*(1+i) + 1 - x>>i&1
		if lit == 1 {
			lit = own
		} else {
			lit = addGate(c, lit, own)
		}
	}
	return lit
}

// checkFound requires that the difference of two circuits, either way round, is this assignment.
func checkFound(t *testing.T, name string, a impl.Circuit, b impl.Circuit, state []bool, in []bool) {
	t.Helper()
	for _, d := range []impl.Counterexample{impl.FindDifference(a, b), impl.FindDifference(b, a)} {
		if !d.Found || !slices.Equal(d.State, state) || !slices.Equal(d.In, in) {
			t.Fatalf("%s: %v, want state %v and inputs %v: %v and %v", name, d, state, in, a, b)
		}
	}
	if impl.Equivalent(a, b) || impl.Equivalent(b, a) {
		t.Fatalf("%s: equivalent: %v and %v", name, a, b)
	}
}

// isNothing takes a nil and an empty slice as the same value.
func isNothing(d impl.Counterexample) bool {
	return !d.Found && len(d.State) == 0 && len(d.In) == 0
}

// checkEquivalent requires that two circuits with the same interface have no difference, either way round.
func checkEquivalent(t *testing.T, name string, a impl.Circuit, b impl.Circuit) {
	t.Helper()
	if !impl.SameInterface(a, b) || !impl.SameInterface(b, a) {
		t.Fatalf("%s: another interface: %v and %v", name, a, b)
	}
	if d, e := impl.FindDifference(a, b), impl.FindDifference(b, a); !isNothing(d) || !isNothing(e) {
		t.Fatalf("%s: differences %v and %v: %v and %v", name, d, e, a, b)
	}
	if !impl.Equivalent(a, b) || !impl.Equivalent(b, a) {
		t.Fatalf("%s: not equivalent: %v and %v", name, a, b)
	}
}

// stepsAgree reports whether two circuits compute the same for one assignment.
func stepsAgree(a impl.Circuit, b impl.Circuit, state []bool, in []bool) bool {
	x, y := impl.Step(a, state, in), impl.Step(b, state, in)
	return slices.Equal(x.Outs, y.Outs) && slices.Equal(x.State, y.State)
}

// firstDifference returns the number of the first assignment for which two circuits with the same interface differ, or -1.
func firstDifference(a impl.Circuit, b impl.Circuit) int {
	for x := range 1 << (a.Inputs + len(a.Next)) {
		if !stepsAgree(a, b, bitsOf(x>>a.Inputs, len(a.Next)), bitsOf(x, a.Inputs)) {
			return x
		}
	}
	return -1
}

// checkCompared requires promises 42 to 45 of two valid circuits with the same interface and returns the number of their difference, or -1.
func checkCompared(t *testing.T, name string, a impl.Circuit, b impl.Circuit) int {
	t.Helper()
	x := firstDifference(a, b)
	if x >= 0 {
		checkFound(t, name, a, b, bitsOf(x>>a.Inputs, len(a.Next)), bitsOf(x, a.Inputs))
	} else {
		checkEquivalent(t, name, a, b)
		checkSameRuns(t, name, a, b)
	}
	if impl.Equivalent(impl.Optimize(a), impl.Optimize(b)) != (x < 0) || impl.Equivalent(impl.Optimize(a), b) != (x < 0) {
		t.Fatalf("%s: first difference %d, not so of the optimized circuits: %v and %v", name, x, a, b)
	}
	return x
}

// Promises 1 and 45: a long run, all prefixes of which agree with it.
func checkSameRuns(t *testing.T, name string, a impl.Circuit, b impl.Circuit) {
	t.Helper()
	rows := rowsFor(a, impl.MaxSteps)
	if x, y := impl.Simulate(a, rows), impl.Simulate(b, rows); len(x) != len(rows) || !sameRows(x, y) {
		t.Fatalf("%s: outputs %v and %v: %v and %v", name, x, y, a, b)
	}
}

// checkAllRuns compares two circuits for every sequence of inputs of some length, which bounds the work.
func checkAllRuns(t *testing.T, name string, a impl.Circuit, b impl.Circuit) {
	t.Helper()
	cycles := 8 / max(1, a.Inputs)
	for x := range 1 << (a.Inputs * cycles) {
		rows := [][]bool{}
		for i := range cycles {
			rows = append(rows, bitsOf(x>>(a.Inputs*i), a.Inputs))
		}
		if got, want := impl.Simulate(b, rows), impl.Simulate(a, rows); len(got) != cycles || !sameRows(got, want) {
			t.Fatalf("%s: inputs %v: outputs %v and %v: %v and %v", name, rows, want, got, a, b)
		}
	}
	checkSameRuns(t, name, a, b)
}

// Promise 43.
func TestKnownDifferences(t *testing.T) {
	for _, k := range differentPairs() {
		if !impl.SameInterface(k.a, k.b) || !impl.SameInterface(k.b, k.a) {
			t.Errorf("%s: another interface: %v and %v", k.name, k.a, k.b)
		}
		checkFound(t, k.name, k.a, k.b, k.state, k.in)
		checkCompared(t, k.name, k.a, k.b)
	}
}

// Promises 43, 44 and 45.
func TestKnownEquivalentCircuits(t *testing.T) {
	for _, k := range equivalentPairs() {
		checkEquivalent(t, k.name, k.a, k.b)
		checkCompared(t, k.name, k.a, k.b)
		checkAllRuns(t, k.name, k.a, k.b)
	}
}

// Promise 43: the bits are written out, so that this test does not depend on a rule for them.
func TestNumbersOfAssignments(t *testing.T) {
	cases := []struct {
		x     int
		in    []bool
		state []bool
	}{
		{0, []bool{false, false, false}, []bool{false, false}},
		{1, []bool{true, false, false}, []bool{false, false}},
		{2, []bool{false, true, false}, []bool{false, false}},
		{4, []bool{false, false, true}, []bool{false, false}},
		{6, []bool{false, true, true}, []bool{false, false}},
		{8, []bool{false, false, false}, []bool{true, false}},
		{11, []bool{true, true, false}, []bool{true, false}},
		{16, []bool{false, false, false}, []bool{false, true}},
		{20, []bool{false, false, true}, []bool{false, true}},
		{31, []bool{true, true, true}, []bool{true, true}},
	}
	for i, k := range cases {
		checkFound(t, "one assignment", trueAt(3, 2, 0), trueAt(3, 2, 0, k.x), k.state, k.in)
		for _, later := range cases[i+1:] {
			checkFound(t, "two assignments", trueAt(3, 2, 0), trueAt(3, 2, 0, later.x, k.x), k.state, k.in)
		}
	}
}

// Promise 43: every assignment of every interface, at every output and next state.
func TestOneDifferentAssignment(t *testing.T) {
	for inputs := range impl.MaxInputs + 1 {
		for latches := range impl.MaxLatches + 1 {
			for place := range allPlaces(latches) {
				for x := range 1 << (inputs + latches) {
					state, in := bitsOf(x>>inputs, latches), bitsOf(x, inputs)
					checkFound(t, "one assignment", trueAt(inputs, latches, place), trueAt(inputs, latches, place, x), state, in)
				}
			}
		}
	}
}

// Promise 43: the smaller number is returned, at whatever output or next state it is.
func TestTwoDifferentAssignments(t *testing.T) {
	for _, size := range [][2]int{{2, 1}, {1, 2}, {0, 3}, {3, 0}} {
		inputs, latches := size[0], size[1]
		for y := range 1 << (inputs + latches) {
			for x := range y {
				state, in := bitsOf(x>>inputs, latches), bitsOf(x, inputs)
				for place := range allPlaces(latches) {
					checkFound(t, "one place", trueAt(inputs, latches, place), trueAt(inputs, latches, place, y, x), state, in)
					other := (place + 1 + x) % allPlaces(latches)
					if other != place {
						checkFound(t, "two places", trueAt(inputs, latches, place, x), trueAt(inputs, latches, other, y), state, in)
					}
				}
			}
		}
	}
}

func TestTwoDifferentAssignmentsAtTheLimits(t *testing.T) {
	inputs, latches := impl.MaxInputs, impl.MaxLatches
	for y := 1; y < 1<<(inputs+latches); y += 6 {
		for x := y % 5; x < y; x += 11 {
			place := (x + y) % allPlaces(latches)
			checkFound(t, "all limits", trueAt(inputs, latches, place, y, x), trueAt(inputs, latches, place), bitsOf(x>>inputs, latches), bitsOf(x, inputs))
		}
	}
}

// sized returns a circuit of these numbers that has nothing but literals of variable 0.
func sized(inputs int, latches int, gates int, outs int, lit int) impl.Circuit {
	return impl.Circuit{
		Inputs: inputs,
		Next:   slices.Repeat([]int{lit}, latches),
		Gates:  make([]impl.Gate, gates),
		Outs:   slices.Repeat([]int{lit}, outs),
	}
}

func interfaces() [][3]int {
	all := [][3]int{}
	for inputs := range impl.MaxInputs + 1 {
		for latches := range impl.MaxLatches + 1 {
			for outs := range impl.MaxOutputs + 1 {
				all = append(all, [3]int{inputs, latches, outs})
			}
		}
	}
	return all
}

// Promise 42: all pairs of interfaces, with circuits that agree and with circuits that do not. The numbers of gates do not matter.
func TestAllInterfaces(t *testing.T) {
	for i, p := range interfaces() {
		for j, q := range interfaces() {
			a := sized(p[0], p[1], (i+3*j)%(impl.MaxGates+1), p[2], 0)
			b := sized(q[0], q[1], (5*i+j)%(impl.MaxGates+1), q[2], 0)
			other := sized(q[0], q[1], 0, q[2], 1)
			if impl.SameInterface(a, b) != (p == q) || impl.SameInterface(a, other) != (p == q) {
				t.Fatalf("interfaces %v and %v", p, q)
			}
			if impl.Equivalent(a, b) != (p == q) || !isNothing(impl.FindDifference(a, b)) {
				t.Fatalf("interfaces %v and %v: %v", p, q, impl.FindDifference(a, b))
			}
			differ := p == q && p[1]+p[2] > 0
			if d := impl.FindDifference(a, other); d.Found != differ || !differ && !isNothing(d) {
				t.Fatalf("interfaces %v and %v: %v", p, q, d)
			}
			if impl.Equivalent(a, other) != (p == q && !differ) {
				t.Fatalf("interfaces %v and %v: equivalent is %t", p, q, impl.Equivalent(a, other))
			}
		}
	}
}

// checkIncomparable requires what all three functions return without a common interface, either way round.
func checkIncomparable(t *testing.T, name string, a impl.Circuit, b impl.Circuit) {
	t.Helper()
	if impl.SameInterface(a, b) || impl.SameInterface(b, a) {
		t.Errorf("%s: the same interface: %v and %v", name, a, b)
	}
	if impl.Equivalent(a, b) || impl.Equivalent(b, a) {
		t.Errorf("%s: equivalent: %v and %v", name, a, b)
	}
	if d, e := impl.FindDifference(a, b), impl.FindDifference(b, a); !isNothing(d) || !isNothing(e) {
		t.Errorf("%s: differences %v and %v: %v and %v", name, d, e, a, b)
	}
}

// Promise 42.
func TestDifferentInterfaces(t *testing.T) {
	checkIncomparable(t, "inputs", impl.Circuit{Inputs: 2, Next: []int{2}, Outs: []int{2}}, impl.Circuit{Inputs: 1, Next: []int{2}, Outs: []int{3}})
	checkIncomparable(t, "latches", impl.Circuit{Inputs: 1, Next: []int{2, 2}, Outs: []int{2}}, impl.Circuit{Inputs: 1, Next: []int{2}, Outs: []int{3}})
	checkIncomparable(t, "outputs", impl.Circuit{Inputs: 1, Next: []int{2}, Outs: []int{2, 2}}, impl.Circuit{Inputs: 1, Next: []int{2}, Outs: []int{3}})
	checkIncomparable(t, "a latch instead of an input", impl.Circuit{Inputs: 2, Outs: []int{4}}, impl.Circuit{Inputs: 1, Next: []int{4}, Outs: []int{4}})
	checkIncomparable(t, "an output instead of a latch", impl.Circuit{Inputs: 1, Next: []int{2}}, impl.Circuit{Inputs: 1, Outs: []int{2}})
	checkIncomparable(t, "nothing and an input", impl.Circuit{}, impl.Circuit{Inputs: 1})
	checkIncomparable(t, "nothing and a latch", impl.Circuit{}, impl.Circuit{Next: []int{0}})
	checkIncomparable(t, "nothing and an output", impl.Circuit{}, impl.Circuit{Outs: []int{0}})
}

// invalidCircuits are invalid each in one way.
func invalidCircuits() []namedCircuit {
	self := counter()
	self.Gates[1].A = 8
	all := []namedCircuit{
		{"inputs", impl.Circuit{Inputs: impl.MaxInputs + 1, Outs: []int{2}}},
		{"latches", impl.Circuit{Inputs: 1, Next: make([]int, impl.MaxLatches+1), Outs: []int{2}}},
		{"gates", impl.Circuit{Inputs: 1, Gates: make([]impl.Gate, impl.MaxGates+1), Outs: []int{2}}},
		{"outputs", impl.Circuit{Inputs: 1, Outs: make([]int, impl.MaxOutputs+1)}},
		{"gate that refers to itself", self},
		{"wrong gate that nothing uses", impl.Circuit{Inputs: 1, Gates: []impl.Gate{{A: 4, B: 2}}, Outs: []int{2}}},
	}
	for _, n := range []int{-1, -2, math.MinInt, math.MaxInt, 63, 64, 1 << 32, 1<<32 + 1} {
		all = append(all, namedCircuit{"number of inputs", impl.Circuit{Inputs: n}}, namedCircuit{"number of inputs with more", impl.Circuit{Inputs: n, Next: []int{0}, Outs: []int{1}}})
	}
	for _, lit := range []int{-1, -2, -3, math.MinInt, 6, 7, 8, 128, 1 << 32, math.MaxInt} {
		for _, k := range placements(lit) {
			all = append(all, namedCircuit{k.place, k.c})
		}
	}
	return all
}

// Promises 42 and 44 are about valid circuits: an invalid one is not even equivalent to itself.
func TestInvalidCircuitsAreNotCompared(t *testing.T) {
	for _, k := range invalidCircuits() {
		checkIncomparable(t, k.name+", twice", k.c, k.c)
		checkIncomparable(t, k.name+", and its copy", k.c, copyOf(k.c))
		checkIncomparable(t, k.name+", optimized", k.c, impl.Optimize(k.c))
		checkIncomparable(t, k.name+", and nothing", k.c, impl.Circuit{})
		checkIncomparable(t, k.name+", and the counter", k.c, counter())
		// As many inputs, latches and outputs, where that many are allowed.
		for lit := range 2 {
			checkIncomparable(t, k.name+", of the same size", k.c, impl.Circuit{Inputs: k.c.Inputs, Next: slices.Repeat([]int{lit}, len(k.c.Next)), Outs: slices.Repeat([]int{lit}, len(k.c.Outs))})
		}
		for _, other := range invalidCircuits() {
			checkIncomparable(t, k.name+" and "+other.name, k.c, other.c)
		}
	}
}

// checkPreserved requires promise 1 of a valid circuit, and what promise 44 says of it alone.
func checkPreserved(t *testing.T, name string, c impl.Circuit) {
	t.Helper()
	x := impl.Optimize(c)
	checkSameBehaviour(t, name, c, x)
	checkEquivalent(t, name, c, c)
	checkEquivalent(t, name, c, copyOf(c))
	checkEquivalent(t, name, c, x)
	checkSameRuns(t, name, c, x)
}

// namedPairs returns all pairs of known circuits.
func namedPairs() []circuitPair {
	pairs := equivalentPairs()
	for _, k := range differentPairs() {
		pairs = append(pairs, k.circuitPair)
	}
	return pairs
}

// namedCircuits returns all valid circuits that some test names.
func namedCircuits() []namedCircuit {
	all := simulated()
	for _, k := range optimizedCases() {
		all = append(all, namedCircuit{k.name, k.c})
	}
	for _, k := range namedPairs() {
		all = append(all, namedCircuit{k.name + ", first", k.a}, namedCircuit{k.name + ", second", k.b})
	}
	return all
}

// Promises 1 and 44.
func TestOptimizationPreservesBehaviour(t *testing.T) {
	for _, k := range namedCircuits() {
		checkPreserved(t, k.name, k.c)
		checkAllRuns(t, k.name, k.c, impl.Optimize(k.c))
	}
}

// Promises 42 to 45: all pairs of named circuits.
func TestAllPairsOfNamedCircuits(t *testing.T) {
	for i, p := range namedCircuits() {
		for _, q := range namedCircuits()[:i] {
			name := p.name + " and " + q.name
			if p.c.Inputs == q.c.Inputs && len(p.c.Next) == len(q.c.Next) && len(p.c.Outs) == len(q.c.Outs) {
				checkCompared(t, name, p.c, q.c)
			} else {
				checkIncomparable(t, name, p.c, q.c)
			}
		}
	}
}

// Promises 1 and 44.
func TestSmallCircuitsArePreserved(t *testing.T) {
	for c := range smallCircuits {
		if impl.CircuitValid(c) {
			checkPreserved(t, "small circuit", c)
		} else if impl.SameInterface(c, c) || impl.Equivalent(c, c) || !isNothing(impl.FindDifference(c, c)) {
			t.Fatalf("invalid: %v", c)
		}
	}
}

// Promises 42 to 45: all pairs of circuits of one gate over an input and a latch, whose output and next state are the gate, its complement or the latch.
func TestAllPairsOfOneGate(t *testing.T) {
	circuits := []impl.Circuit{}
	for _, g := range pairsBelow(6) {
		for _, lits := range [][2]int{{6, 4}, {4, 7}} {
			circuits = append(circuits, impl.Circuit{Inputs: 1, Next: []int{lits[0]}, Gates: []impl.Gate{g}, Outs: []int{lits[1]}})
		}
	}
	first := map[int]int{}
	for i, a := range circuits {
		for _, b := range circuits[:i+1] {
			first[checkCompared(t, "one gate", a, b)]++
		}
	}
	for x := -1; x < 4; x++ {
		if first[x] < 10 {
			t.Errorf("only %d pairs whose first difference is %d", first[x], x)
		}
	}
}

// changed returns a valid circuit that differs from c in one literal.
func changed(c impl.Circuit, seed int) impl.Circuit {
	c = copyOf(c)
	places := []*int{}
	for i := range c.Gates {
		places = append(places, &c.Gates[i].A, &c.Gates[i].B)
	}
	for i := range c.Next {
		places = append(places, &c.Next[i])
	}
	for i := range c.Outs {
		places = append(places, &c.Outs[i])
	}
	if len(places) == 0 {
		return c
	}
	place := places[seed%len(places)]
	if seed/7%3 == 0 {
		*place ^= 1
	} else {
		*place = seed / 11 % (*place + 1)
	}
	return c
}

// Promises 1 and 42 to 45 for circuits up to the limits, each with itself optimized and with one that differs in a literal.
func TestMixedCircuitsCompared(t *testing.T) {
	equivalent, atFirst, later := 0, 0, 0
	for seed := range 4000 {
		c := mixed(seed)
		checkPreserved(t, "mixed circuit", c)
		switch x := checkCompared(t, "mixed circuit with a change", c, changed(c, seed)); {
		case x < 0:
			equivalent++
		case x == 0:
			atFirst++
		default:
			later++
		}
	}
	// Pairs of one kind alone would test little.
	if equivalent < 400 || atFirst < 400 || later < 400 {
		t.Errorf("%d equivalent pairs, %d that differ at first, %d later", equivalent, atFirst, later)
	}
}

// Promise 44: equivalence agrees with optimization also where optimization leaves different circuits.
func TestEquivalentCircuitsOfDifferentNormalForm(t *testing.T) {
	for _, k := range []circuitPair{equivalentWithoutLatches()[1], equivalentWithoutLatches()[2], equivalentWithLatches()[0]} {
		x, y := impl.Optimize(k.a), impl.Optimize(k.b)
		if sameCircuit(x, y) {
			t.Errorf("%s: both optimized to %v", k.name, x)
		}
		checkEquivalent(t, k.name, x, y)
	}
}

func TestComparisonDoesNotWriteItsArguments(t *testing.T) {
	for _, k := range namedPairs() {
		a, b := roomy(k.a), roomy(k.b)
		impl.SameInterface(a, b)
		impl.FindDifference(a, b)
		impl.Equivalent(a, b)
		checkUnwritten(t, k.name, a, k.a)
		checkUnwritten(t, k.name, b, k.b)
	}
	for _, k := range invalidCircuits() {
		before := copyOf(k.c)
		impl.SameInterface(k.c, counter())
		impl.FindDifference(k.c, counter())
		impl.Equivalent(k.c, counter())
		if !reflect.DeepEqual(k.c, before) {
			t.Errorf("%s: changed: %v, before %v", k.name, k.c, before)
		}
	}
}

// Spoiling a part of a result must change neither an argument nor the other part nor another result.
func TestDifferencesShareNoMemory(t *testing.T) {
	for _, k := range differentPairs() {
		a, b := roomy(k.a), roomy(k.b)
		first, second := impl.FindDifference(a, b), impl.FindDifference(a, b)
		spoil(first.State)
		if !slices.Equal(first.In, k.in) {
			t.Errorf("%s: state and inputs share memory", k.name)
		}
		spoil(first.In)
		if !slices.Equal(second.State, k.state) || !slices.Equal(second.In, k.in) {
			t.Errorf("%s: two results share memory", k.name)
		}
		checkUnwritten(t, k.name, a, k.a)
		checkUnwritten(t, k.name, b, k.b)
		checkFound(t, k.name, a, b, k.state, k.in)
	}
}

// Two circuits that share their gates and outputs are ordinary arguments.
func TestComparisonOfSharedArguments(t *testing.T) {
	a := counter()
	b := a
	b.Next = []int{11}
	checkFound(t, "shared gates", a, b, []bool{false}, []bool{false})
	checkEquivalent(t, "shared slices", a, a)
	if !sameCircuit(a, counter()) {
		t.Errorf("changed: %v", a)
	}
}

// Every comparison starts anew: an earlier one leaves no state behind.
func TestComparisonKeepsNoState(t *testing.T) {
	for range 3 {
		for _, k := range differentPairs() {
			checkFound(t, k.name, k.a, k.b, k.state, k.in)
			checkEquivalent(t, k.name, k.a, k.a)
		}
	}
}
