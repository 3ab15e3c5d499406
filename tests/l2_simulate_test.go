package tests

import (
	"math"
	"reflect"
	"slices"
	"testing"

	"loop.example/fpgatoolchain/impl"
)

// bitsOf returns the lowest n bits of x, the lowest first.
func bitsOf(x int, n int) []bool {
	values := make([]bool, n)
	for i := range values {
		values[i] = x>>i&1 == 1
	}
	return values
}

// modelValue follows the definition of the value of a literal from it down to the inputs and latches.
func modelValue(c impl.Circuit, state []bool, in []bool, lit int) bool {
	if lit%2 == 1 {
		return !modelValue(c, state, in, lit-1)
	}
	v := lit / 2
	switch {
	case v == 0:
		return false
	case v <= c.Inputs:
		return in[v-1]
	case v <= c.Inputs+len(c.Next):
		return state[v-1-c.Inputs]
	}
	g := c.Gates[v-1-c.Inputs-len(c.Next)]
	return modelValue(c, state, in, g.A) && modelValue(c, state, in, g.B)
}

func modelValues(c impl.Circuit, state []bool, in []bool, lits []int) []bool {
	values := []bool{}
	for _, lit := range lits {
		values = append(values, modelValue(c, state, in, lit))
	}
	return values
}

// modelRuns returns the outputs of every cycle by the definition alone.
func modelRuns(c impl.Circuit, rows [][]bool) [][]bool {
	state := make([]bool, len(c.Next))
	outs := [][]bool{}
	for _, row := range rows {
		outs = append(outs, modelValues(c, state, row, c.Outs))
		state = modelValues(c, state, row, c.Next)
	}
	return outs
}

func sameRows(a [][]bool, b [][]bool) bool {
	return slices.EqualFunc(a, b, slices.Equal[[]bool])
}

// dense is at all four limits, and every gate depends on inputs, latches and earlier gates.
func dense() impl.Circuit {
	c := impl.Circuit{Inputs: impl.MaxInputs}
	first := 1 + impl.MaxInputs + impl.MaxLatches
	for i := range impl.MaxGates {
		own := first + i
		c.Gates = append(c.Gates, impl.Gate{A: (7*i + 3) % (2 * own), B: 2*(own-1-i%3) + i%2})
	}
	last := 2 * (first + impl.MaxGates - 1)
	c.Next = []int{last + 1, last - 2, 2*impl.MaxInputs + 3}
	c.Outs = []int{last, last - 3, 2*first + 1}
	return c
}

type namedCircuit struct {
	name string
	c    impl.Circuit
}

// simulated are valid circuits: ordinary ones, with and without latches, and those at the edges.
func simulated() []namedCircuit {
	return []namedCircuit{
		{"counter", counter()},
		{"chain", chain()},
		{"tree without latches", impl.Circuit{Inputs: 4, Gates: []impl.Gate{{A: 2, B: 4}, {A: 7, B: 8}, {A: 11, B: 13}}, Outs: []int{14, 15, 10}}},
		{"shift register", impl.Circuit{Inputs: 1, Next: []int{2, 4, 6}, Outs: []int{8}}},
		{"latches that exchange their values", impl.Circuit{Inputs: 1, Next: []int{6, 5, 2}, Outs: []int{4, 6, 9}}},
		{"latches that keep their values", impl.Circuit{Next: []int{2, 4}, Outs: []int{2, 5}}},
		{"toggle without inputs", impl.Circuit{Next: []int{3}, Outs: []int{2}}},
		{"latches that become constant", impl.Circuit{Next: []int{1, 0, 1}, Outs: []int{2, 5, 7}}},
		{"operands of variable 0", impl.Circuit{Inputs: 1, Gates: []impl.Gate{{A: 0, B: 2}, {A: 1, B: 2}, {A: 1, B: 1}, {A: 0, B: 1}, {A: 3, B: 1}}, Outs: []int{4, 6, 8}}},
		{"outputs of variable 0", impl.Circuit{Outs: []int{0, 1, 0}}},
		{"operands of one variable", impl.Circuit{Inputs: 1, Next: []int{9}, Gates: []impl.Gate{{A: 2, B: 2}, {A: 2, B: 3}, {A: 3, B: 3}}, Outs: []int{6, 8, 10}}},
		{"no outputs", impl.Circuit{Inputs: 2, Next: []int{2}, Gates: []impl.Gate{{A: 2, B: 4}}}},
		{"nil slices", impl.Circuit{}},
		{"empty slices", impl.Circuit{Next: []int{}, Gates: []impl.Gate{}, Outs: []int{}}},
		{"most inputs", impl.Circuit{Inputs: impl.MaxInputs, Outs: []int{2, 2 * impl.MaxInputs, 2*impl.MaxInputs + 1}}},
		{"most latches", impl.Circuit{Next: []int{3, 2, 5}, Outs: []int{2, 4, 2*impl.MaxLatches + 1}}},
		{"most gates", impl.Circuit{Gates: make([]impl.Gate, impl.MaxGates), Outs: []int{2*impl.MaxGates + 1}}},
		{"most outputs", impl.Circuit{Inputs: 1, Outs: []int{2, 3, 2}}},
		{"all limits", full()},
		{"all limits, dense", dense()},
	}
}

// rowsFor returns n rows of inputs for c in which no short pattern repeats.
func rowsFor(c impl.Circuit, n int) [][]bool {
	rows := [][]bool{}
	for i := range n {
		rows = append(rows, bitsOf((i*i+i/3)%16^i%5, c.Inputs))
	}
	return rows
}

// Promises 37 and 38 for one assignment.
func checkAssignment(t *testing.T, name string, c impl.Circuit, state []bool, in []bool) {
	t.Helper()
	values := impl.EvalVars(c, state, in)
	if len(values) != impl.VarCount(c) {
		t.Fatalf("%s: values %v for %d variables", name, values, impl.VarCount(c))
	}
	given := slices.Concat([]bool{false}, in, state)
	if !slices.Equal(values[:len(given)], given) {
		t.Fatalf("%s: values %v, given %v", name, values, given)
	}
	value := func(lit int) bool { return values[lit/2] != (lit%2 == 1) }
	for i, g := range c.Gates {
		if values[len(given)+i] != (value(g.A) && value(g.B)) {
			t.Fatalf("%s: gate %d is %t: values %v of %v", name, i, values[len(given)+i], values, c)
		}
	}
	for v := range values {
		if values[v] != modelValue(c, state, in, 2*v) {
			t.Fatalf("%s: variable %d is %t: %v", name, v, values[v], c)
		}
	}
	result := impl.Step(c, state, in)
	if !slices.Equal(result.Outs, modelValues(c, state, in, c.Outs)) {
		t.Fatalf("%s: outputs %v for values %v of %v", name, result.Outs, values, c)
	}
	if !slices.Equal(result.State, modelValues(c, state, in, c.Next)) {
		t.Fatalf("%s: next state %v for values %v of %v", name, result.State, values, c)
	}
}

func checkAllAssignments(t *testing.T, name string, c impl.Circuit) {
	t.Helper()
	for x := range 1 << (c.Inputs + len(c.Next)) {
		checkAssignment(t, name, c, bitsOf(x>>c.Inputs, len(c.Next)), bitsOf(x, c.Inputs))
	}
}

// Promises 37 and 38.
func TestAllAssignments(t *testing.T) {
	for _, k := range simulated() {
		if !impl.CircuitValid(k.c) {
			t.Fatalf("%s: not valid: %v", k.name, k.c)
		}
		checkAllAssignments(t, k.name, k.c)
	}
}

// Promises 37 and 38.
func TestAllAssignmentsOfSmallCircuits(t *testing.T) {
	for c := range smallCircuits {
		if impl.CircuitValid(c) {
			checkAllAssignments(t, "small circuit", c)
		}
	}
}

// Promise 37: the values are written out, so that this test does not depend on a model.
func TestValuesOfVariables(t *testing.T) {
	cases := []struct {
		state bool
		in    bool
		want  []bool
	}{
		{false, false, []bool{false, false, false, false, true, false}},
		{false, true, []bool{false, true, false, false, false, true}},
		{true, false, []bool{false, false, true, false, false, true}},
		{true, true, []bool{false, true, true, true, false, false}},
	}
	for _, k := range cases {
		got := impl.EvalVars(counter(), []bool{k.state}, []bool{k.in})
		if !slices.Equal(got, k.want) {
			t.Errorf("state %t, input %t: %v, want %v", k.state, k.in, got, k.want)
		}
	}
	// Inputs come before latches.
	c := impl.Circuit{Inputs: 2, Next: []int{0, 0}}
	got := impl.EvalVars(c, []bool{false, true}, []bool{true, false})
	if !slices.Equal(got, []bool{false, true, false, false, true}) {
		t.Error(got)
	}
}

// Promise 37.
func TestOperandsOfVariableZero(t *testing.T) {
	for a := range 2 {
		for b := range 2 {
			c := impl.Circuit{Gates: []impl.Gate{{A: a, B: b}}}
			want := []bool{false, a == 1 && b == 1}
			if got := impl.EvalVars(c, nil, nil); !slices.Equal(got, want) {
				t.Errorf("gate of %d and %d: %v, want %v", a, b, got, want)
			}
		}
	}
}

func TestValuesOfTheEmptyCircuit(t *testing.T) {
	for _, c := range []impl.Circuit{{}, {Next: []int{}, Gates: []impl.Gate{}, Outs: []int{}}} {
		for _, none := range [][]bool{nil, {}} {
			if got := impl.EvalVars(c, none, none); !slices.Equal(got, []bool{false}) {
				t.Errorf("values %v", got)
			}
			if r := impl.Step(c, none, none); len(r.Outs) != 0 || len(r.State) != 0 {
				t.Errorf("step %v", r)
			}
			if got := impl.Simulate(c, [][]bool{none, none}); !sameRows(got, [][]bool{{}, {}}) {
				t.Errorf("simulation %v", got)
			}
		}
	}
}

// Promise 38.
func TestLiteralsAsOutputsAndNextState(t *testing.T) {
	want := []bool{false, true, true, false, false, true, false, true}
	for lit, value := range want {
		c := impl.Circuit{Inputs: 1, Next: []int{lit}, Gates: []impl.Gate{{A: 2, B: 4}}, Outs: []int{0, lit, 1}}
		r := impl.Step(c, []bool{false}, []bool{true})
		if !slices.Equal(r.Outs, []bool{false, value, true}) || !slices.Equal(r.State, []bool{value}) {
			t.Errorf("literal %d: %v, want %t", lit, r, value)
		}
	}
}

// Promise 38: all latches are updated at once.
func TestNextStateFromTheOldState(t *testing.T) {
	exchange := impl.Circuit{Next: []int{4, 2}, Outs: []int{2, 4}}
	r := impl.Step(exchange, []bool{true, false}, nil)
	if !slices.Equal(r.Outs, []bool{true, false}) || !slices.Equal(r.State, []bool{false, true}) {
		t.Error(r)
	}
}

// Promise 39.
func checkSequenceOfSteps(t *testing.T, name string, c impl.Circuit, rows [][]bool) {
	t.Helper()
	outs := impl.Simulate(c, rows)
	if len(outs) != len(rows) {
		t.Fatalf("%s: %d rows of outputs for %d rows", name, len(outs), len(rows))
	}
	state := make([]bool, len(c.Next))
	for i, row := range rows {
		r := impl.Step(c, state, row)
		if !slices.Equal(outs[i], r.Outs) {
			t.Fatalf("%s: cycle %d: outputs %v, by steps %v", name, i, outs[i], r.Outs)
		}
		state = r.State
	}
	if !sameRows(outs, modelRuns(c, rows)) {
		t.Fatalf("%s: outputs %v, want %v", name, outs, modelRuns(c, rows))
	}
	for n := range rows {
		if !sameRows(impl.Simulate(c, rows[:n]), outs[:n]) {
			t.Fatalf("%s: the outputs of %d rows are no prefix", name, n)
		}
	}
}

// Promise 39.
func TestSimulationIsASequenceOfSteps(t *testing.T) {
	for _, k := range simulated() {
		for _, n := range []int{0, 1, 2, 3, 7, impl.MaxSteps - 1, impl.MaxSteps} {
			checkSequenceOfSteps(t, k.name, k.c, rowsFor(k.c, n))
		}
	}
}

// Promise 39.
func TestShortRunsOfSmallCircuits(t *testing.T) {
	for c := range smallCircuits {
		if impl.CircuitValid(c) && len(c.Next) > 0 && len(c.Outs) > 0 {
			rows := rowsFor(c, 3)
			if got, want := impl.Simulate(c, rows), modelRuns(c, rows); !sameRows(got, want) {
				t.Fatalf("outputs %v, want %v: %v", got, want, c)
			}
		}
	}
}

// column makes rows of one value each.
func column(values ...bool) [][]bool {
	rows := [][]bool{}
	for _, value := range values {
		rows = append(rows, []bool{value})
	}
	return rows
}

// Promise 39: the outputs are written out, so that this test does not depend on a model.
func TestKnownRuns(t *testing.T) {
	toggle := impl.Circuit{Next: []int{3}, Outs: []int{2}}
	shift := impl.Circuit{Inputs: 1, Next: []int{2, 4, 6}, Outs: []int{8}}
	and := impl.Circuit{Inputs: 2, Gates: []impl.Gate{{A: 2, B: 4}}, Outs: []int{6, 7}}
	cases := []struct {
		name string
		c    impl.Circuit
		rows [][]bool
		want [][]bool
	}{
		{"counter", counter(), column(true, true, false, true), column(false, true, false, false)},
		{"toggle", toggle, [][]bool{{}, nil, {}, {}}, column(false, true, false, true)},
		{"shift register", shift, column(true, false, true, true, false, false, false), column(false, false, false, true, false, true, true)},
		{"conjunction", and, [][]bool{{false, false}, {true, false}, {false, true}, {true, true}}, [][]bool{{false, true}, {false, true}, {false, true}, {true, false}}},
	}
	for _, k := range cases {
		if got := impl.Simulate(k.c, k.rows); !sameRows(got, k.want) {
			t.Errorf("%s: %v, want %v", k.name, got, k.want)
		}
	}
}

// Promise 39.
func TestFirstCycle(t *testing.T) {
	c := impl.Circuit{Next: []int{1, 1, 1}, Gates: []impl.Gate{{A: 3, B: 5}, {A: 7, B: 8}}, Outs: []int{2, 7, 10}}
	want := [][]bool{{false, true, true}, {true, false, false}, {true, false, false}}
	if got := impl.Simulate(c, [][]bool{{}, {}, {}}); !sameRows(got, want) {
		t.Errorf("%v, want %v", got, want)
	}
	for latches := 1; latches <= impl.MaxLatches; latches++ {
		for v := 1; v <= latches; v++ {
			c := impl.Circuit{Next: slices.Repeat([]int{1}, latches), Outs: []int{2 * v, 2*v + 1}}
			got := impl.Simulate(c, [][]bool{nil})
			if !sameRows(got, [][]bool{{false, true}}) {
				t.Errorf("latch %d of %d in the first cycle: %v", v, latches, got)
			}
		}
	}
}

// Every simulation starts anew: an earlier call leaves no state behind.
func TestSimulationKeepsNoState(t *testing.T) {
	rows := column(true)
	for range 3 {
		if got := impl.Simulate(counter(), rows); !sameRows(got, column(false)) {
			t.Fatal(got)
		}
	}
}

func TestNoRows(t *testing.T) {
	for _, k := range simulated() {
		for _, rows := range [][][]bool{nil, {}} {
			if got := impl.Simulate(k.c, rows); len(got) != 0 {
				t.Errorf("%s: %v", k.name, got)
			}
		}
	}
}

func TestNumberOfRows(t *testing.T) {
	if impl.MaxSteps != 40 {
		t.Errorf("MaxSteps is %d", impl.MaxSteps)
	}
	for _, k := range simulated() {
		if got := impl.Simulate(k.c, rowsFor(k.c, impl.MaxSteps)); len(got) != impl.MaxSteps {
			t.Errorf("%s: %d rows for the most rows", k.name, len(got))
		}
		for _, n := range []int{impl.MaxSteps + 1, impl.MaxSteps + 2, 2 * impl.MaxSteps, 1000} {
			if got := impl.Simulate(k.c, rowsFor(k.c, n)); got != nil {
				t.Errorf("%s: %d rows for %d rows", k.name, len(got), n)
			}
		}
	}
}

// checkNoValues requires what EvalVars and Step return for invalid arguments.
func checkNoValues(t *testing.T, name string, c impl.Circuit, state []bool, in []bool) {
	t.Helper()
	if got := impl.EvalVars(c, state, in); got != nil {
		t.Errorf("%s: values %v for state %v and inputs %v of %v", name, got, state, in, c)
	}
	if r := impl.Step(c, state, in); r.Outs != nil || r.State != nil {
		t.Errorf("%s: step %v for state %v and inputs %v of %v", name, r, state, in, c)
	}
}

func TestLengthsOfStateAndInputs(t *testing.T) {
	for _, k := range simulated() {
		latches := len(k.c.Next)
		for states := range impl.MaxLatches + 3 {
			for ins := range impl.MaxInputs + 3 {
				if states != latches || ins != k.c.Inputs {
					checkNoValues(t, k.name, k.c, make([]bool, states), make([]bool, ins))
				}
			}
		}
		if latches > 0 {
			checkNoValues(t, k.name, k.c, nil, make([]bool, k.c.Inputs))
		}
		if k.c.Inputs > 0 {
			checkNoValues(t, k.name, k.c, make([]bool, latches), nil)
		}
	}
}

// Spare capacity must not make up for values that are missing.
func TestLengthIsNotCapacity(t *testing.T) {
	spare := make([]bool, 1, 2)
	checkNoValues(t, "state", counter(), spare[:0], []bool{true})
	checkNoValues(t, "inputs", counter(), []bool{true}, spare[:0])
	if got := impl.Simulate(counter(), [][]bool{spare[:0]}); got != nil {
		t.Error(got)
	}
}

func TestNilAndEmptyArguments(t *testing.T) {
	gate := impl.Circuit{Gates: []impl.Gate{{A: 1, B: 1}}, Outs: []int{2}}
	for _, state := range [][]bool{nil, {}} {
		for _, in := range [][]bool{nil, {}} {
			if got := impl.EvalVars(gate, state, in); !slices.Equal(got, []bool{false, true}) {
				t.Errorf("values %v", got)
			}
			if r := impl.Step(gate, state, in); !slices.Equal(r.Outs, []bool{true}) || len(r.State) != 0 {
				t.Errorf("step %v", r)
			}
		}
	}
	if got := impl.Simulate(gate, [][]bool{nil, {}, nil}); !sameRows(got, column(true, true, true)) {
		t.Errorf("simulation %v", got)
	}
}

// checkWrongRow requires that one row of the wrong length, wherever it stands, is found.
func checkWrongRow(t *testing.T, k namedCircuit, count int, wrong []bool) {
	t.Helper()
	for i := range count {
		rows := rowsFor(k.c, count)
		rows[i] = wrong
		if got := impl.Simulate(k.c, rows); got != nil {
			t.Errorf("%s: row %d of %d has %d values: %v", k.name, i, count, len(wrong), got)
		}
	}
}

func TestLengthsOfRows(t *testing.T) {
	for _, k := range simulated() {
		for _, count := range []int{1, 2, 5, impl.MaxSteps} {
			checkWrongRow(t, k, count, make([]bool, k.c.Inputs+1))
			checkWrongRow(t, k, count, make([]bool, impl.MaxInputs+1))
			if k.c.Inputs > 0 {
				checkWrongRow(t, k, count, make([]bool, k.c.Inputs-1))
				checkWrongRow(t, k, count, nil)
			}
		}
		// Rows that are too long and too short must not make up for each other.
		if k.c.Inputs > 0 {
			rows := [][]bool{make([]bool, k.c.Inputs+1), make([]bool, k.c.Inputs-1)}
			if got := impl.Simulate(k.c, rows); got != nil {
				t.Errorf("%s: %v", k.name, got)
			}
		}
	}
}

// checkNotSimulated requires what all three functions return for an invalid circuit, with as many values as it asks for.
func checkNotSimulated(t *testing.T, name string, c impl.Circuit) {
	t.Helper()
	in := make([]bool, max(0, min(c.Inputs, 100)))
	checkNoValues(t, name, c, make([]bool, len(c.Next)), in)
	checkNoValues(t, name, c, nil, nil)
	for _, rows := range [][][]bool{nil, {}, {in}, {nil}, {in, in}} {
		if got := impl.Simulate(c, rows); got != nil {
			t.Errorf("%s: %v for %v", name, got, c)
		}
	}
}

func TestInvalidCircuitsAreNotSimulated(t *testing.T) {
	checkNotSimulated(t, "inputs", impl.Circuit{Inputs: impl.MaxInputs + 1})
	checkNotSimulated(t, "latches", impl.Circuit{Next: make([]int, impl.MaxLatches+1)})
	checkNotSimulated(t, "gates", impl.Circuit{Gates: make([]impl.Gate, impl.MaxGates+1)})
	checkNotSimulated(t, "outputs", impl.Circuit{Outs: make([]int, impl.MaxOutputs+1)})
	for _, n := range []int{-1, math.MinInt, math.MaxInt, 1 << 32} {
		checkNotSimulated(t, "number of inputs", impl.Circuit{Inputs: n, Next: []int{0}, Outs: []int{0}})
	}
	for _, lit := range []int{-1, -2, -3, math.MinInt, 6, 7, 8, 9, 10, 128, math.MaxInt} {
		for _, k := range placements(lit) {
			checkNotSimulated(t, k.place, k.c)
		}
	}
	self := counter()
	self.Gates[1].A = 8
	checkNotSimulated(t, "gate that refers to itself", self)
}

// spoil inverts all of a slice, including its spare capacity.
func spoil(values []bool) {
	values = values[:cap(values)]
	for i := range values {
		values[i] = !values[i]
	}
}

func TestSimulationDoesNotWriteItsArguments(t *testing.T) {
	for _, k := range simulated() {
		before := copyOf(k.c)
		state, in, rows := bitsOf(5, len(k.c.Next)), bitsOf(9, k.c.Inputs), rowsFor(k.c, 4)
		impl.EvalVars(k.c, state, in)
		impl.Step(k.c, state, in)
		impl.Simulate(k.c, rows)
		if !reflect.DeepEqual(k.c, before) {
			t.Errorf("%s: circuit changed: %v", k.name, k.c)
		}
		if !slices.Equal(state, bitsOf(5, len(k.c.Next))) || !slices.Equal(in, bitsOf(9, k.c.Inputs)) || !sameRows(rows, rowsFor(k.c, 4)) {
			t.Errorf("%s: changed: state %v, inputs %v, rows %v", k.name, state, in, rows)
		}
	}
}

// Spoiling a result must change neither an argument nor another part of a result.
func TestResultsOfSimulationShareNoMemory(t *testing.T) {
	for _, k := range simulated() {
		state, in := bitsOf(5, len(k.c.Next)), bitsOf(9, k.c.Inputs)
		spoil(impl.EvalVars(k.c, state, in))
		first, second := impl.Step(k.c, state, in), impl.Step(k.c, state, in)
		spoil(first.Outs)
		if !slices.Equal(first.State, second.State) {
			t.Errorf("%s: outputs and next state share memory", k.name)
		}
		spoil(first.State)
		checkAssignment(t, k.name, k.c, state, in)
		if !slices.Equal(second.Outs, modelValues(k.c, state, in, k.c.Outs)) || !slices.Equal(second.State, modelValues(k.c, state, in, k.c.Next)) {
			t.Errorf("%s: two results share memory", k.name)
		}
		if !slices.Equal(state, bitsOf(5, len(k.c.Next))) || !slices.Equal(in, bitsOf(9, k.c.Inputs)) {
			t.Errorf("%s: a result shares memory with an argument", k.name)
		}
		checkRowsShareNoMemory(t, k)
	}
}

func checkRowsShareNoMemory(t *testing.T, k namedCircuit) {
	t.Helper()
	rows := rowsFor(k.c, 5)
	want := modelRuns(k.c, rows)
	for i := range rows {
		outs := impl.Simulate(k.c, rows)
		spoil(outs[i])
		outs[i] = want[i]
		if !sameRows(outs, want) {
			t.Errorf("%s: row %d shares memory with another row", k.name, i)
		}
		if !sameRows(rows, rowsFor(k.c, 5)) {
			t.Errorf("%s: row %d shares memory with the inputs", k.name, i)
		}
	}
}
