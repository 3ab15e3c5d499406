package tests

import (
	"math"
	"reflect"
	"slices"
	"testing"

	"loop.example/fpgatoolchain/impl"
)

// counter is the example of the specification: a one-bit counter with an enable input.
func counter() impl.Circuit {
	return impl.Circuit{
		Inputs: 1,
		Next:   []int{10},
		Gates:  []impl.Gate{{A: 2, B: 4}, {A: 3, B: 5}, {A: 7, B: 9}},
		Outs:   []int{4},
	}
}

// chain has the most gates, each of which uses the one before it.
func chain() impl.Circuit {
	c := impl.Circuit{Inputs: 1, Outs: []int{2 * (1 + impl.MaxGates)}}
	for i := range impl.MaxGates {
		c.Gates = append(c.Gates, impl.Gate{A: 2, B: 2 * (1 + i)})
	}
	return c
}

// full is at all four limits at once.
func full() impl.Circuit {
	c := impl.Circuit{
		Inputs: impl.MaxInputs,
		Next:   make([]int, impl.MaxLatches),
		Gates:  make([]impl.Gate, impl.MaxGates),
		Outs:   make([]int, impl.MaxOutputs),
	}
	last := impl.MaxInputs + impl.MaxLatches + impl.MaxGates
	c.Next[impl.MaxLatches-1] = 2*last + 1
	c.Outs[impl.MaxOutputs-1] = 2 * last
	return c
}

// checkValid requires the answers for a valid circuit with these numbers.
func checkValid(t *testing.T, name string, c impl.Circuit, count int, depth int) {
	t.Helper()
	if !impl.CircuitValid(c) {
		t.Errorf("%s: not valid: %v", name, c)
	}
	if got := impl.VarCount(c); got != count {
		t.Errorf("%s: %d variables, want %d: %v", name, got, count, c)
	}
	if got := impl.Depth(c); got != depth {
		t.Errorf("%s: depth %d, want %d: %v", name, got, depth, c)
	}
}

// checkInvalid requires the answers for an invalid circuit.
func checkInvalid(t *testing.T, name string, c impl.Circuit) {
	t.Helper()
	if impl.CircuitValid(c) {
		t.Errorf("%s: valid: %v", name, c)
	}
	if got := impl.VarCount(c); got != 0 {
		t.Errorf("%s: %d variables, want 0: %v", name, got, c)
	}
	if got := impl.Depth(c); got != -1 {
		t.Errorf("%s: depth %d, want -1: %v", name, got, c)
	}
}

func TestOrdinaryCircuits(t *testing.T) {
	checkValid(t, "counter", counter(), 6, 2)
	checkValid(t, "chain", chain(), 2+impl.MaxGates, impl.MaxGates)
	tree := impl.Circuit{Inputs: 4, Gates: []impl.Gate{{A: 2, B: 4}, {A: 6, B: 8}, {A: 10, B: 12}}, Outs: []int{15}}
	checkValid(t, "tree", tree, 8, 2)
	shift := impl.Circuit{Inputs: 1, Next: []int{2, 4, 6}, Outs: []int{8}}
	checkValid(t, "shift register", shift, 5, 0)
	hold := impl.Circuit{Next: []int{2, 4}}
	checkValid(t, "latches that keep their values", hold, 3, 0)
	twice := impl.Circuit{Inputs: 1, Gates: []impl.Gate{{A: 2, B: 2}, {A: 4, B: 5}}, Outs: []int{6, 6}}
	checkValid(t, "both operands of one variable", twice, 4, 2)
}

func TestEmptyCircuit(t *testing.T) {
	checkValid(t, "nil slices", impl.Circuit{}, 1, 0)
	checkValid(t, "empty slices", impl.Circuit{Next: []int{}, Gates: []impl.Gate{}, Outs: []int{}}, 1, 0)
}

func TestLimits(t *testing.T) {
	checkValid(t, "inputs", impl.Circuit{Inputs: impl.MaxInputs}, 1+impl.MaxInputs, 0)
	checkValid(t, "latches", impl.Circuit{Next: make([]int, impl.MaxLatches)}, 1+impl.MaxLatches, 0)
	checkValid(t, "gates", impl.Circuit{Gates: make([]impl.Gate, impl.MaxGates)}, 1+impl.MaxGates, 0)
	checkValid(t, "outputs", impl.Circuit{Outs: make([]int, impl.MaxOutputs)}, 1, 0)
	checkValid(t, "all", full(), 1+impl.MaxInputs+impl.MaxLatches+impl.MaxGates, 1)

	checkInvalid(t, "inputs", impl.Circuit{Inputs: impl.MaxInputs + 1})
	checkInvalid(t, "latches", impl.Circuit{Next: make([]int, impl.MaxLatches+1)})
	checkInvalid(t, "gates", impl.Circuit{Gates: make([]impl.Gate, impl.MaxGates+1)})
	checkInvalid(t, "outputs", impl.Circuit{Outs: make([]int, impl.MaxOutputs+1)})
}

func TestLimitValues(t *testing.T) {
	got := [4]int{impl.MaxInputs, impl.MaxLatches, impl.MaxGates, impl.MaxOutputs}
	if got != [4]int{4, 3, 14, 3} {
		t.Error(got)
	}
}

func TestNumbersOfInputs(t *testing.T) {
	for _, n := range []int{-1, -2, -impl.MaxInputs, math.MinInt, math.MinInt + 1, math.MaxInt, math.MaxInt - 1, 1 << 32, 1<<32 + 1} {
		checkInvalid(t, "inputs alone", impl.Circuit{Inputs: n})
		checkInvalid(t, "inputs with an output", impl.Circuit{Inputs: n, Outs: []int{0}})
		c := counter()
		c.Inputs = n
		checkInvalid(t, "inputs of the counter", c)
	}
	// Latches must not make up for inputs that are missing.
	checkInvalid(t, "latch instead of input", impl.Circuit{Inputs: -1, Next: []int{0}})
}

// placed is a circuit in which the literal under test stands at the named place.
type placed struct {
	place string
	c     impl.Circuit
}

// placements puts one literal at every kind of place; each place may refer to exactly the variables 0, 1 and 2.
func placements(lit int) []placed {
	and := impl.Gate{A: 2, B: 2}
	return []placed{
		{"first operand", impl.Circuit{Inputs: 1, Next: []int{0}, Gates: []impl.Gate{{A: lit, B: 2}}}},
		{"second operand", impl.Circuit{Inputs: 2, Gates: []impl.Gate{{A: 2, B: lit}}}},
		{"both operands", impl.Circuit{Next: []int{0, 0}, Gates: []impl.Gate{{A: lit, B: lit}}}},
		{"first operand of a second gate", impl.Circuit{Inputs: 1, Gates: []impl.Gate{and, {A: lit, B: 2}, and}}},
		{"second operand of a second gate", impl.Circuit{Inputs: 1, Gates: []impl.Gate{and, {A: 2, B: lit}, and}}},
		{"next state", impl.Circuit{Inputs: 1, Next: []int{lit}}},
		{"last next state", impl.Circuit{Next: []int{0, lit}}},
		{"next state before a gate", impl.Circuit{Next: []int{lit}, Gates: []impl.Gate{and}}},
		{"output", impl.Circuit{Inputs: 1, Next: []int{0}, Outs: []int{lit}}},
		{"last output", impl.Circuit{Inputs: 2, Outs: []int{0, 0, lit}}},
		{"output before a gate", impl.Circuit{Inputs: 1, Gates: []impl.Gate{and}, Outs: []int{lit}}},
	}
}

func TestLiteralsOfExistingVariables(t *testing.T) {
	for lit := range 6 {
		for _, k := range placements(lit) {
			if !impl.CircuitValid(k.c) {
				t.Errorf("literal %d as %s: not valid", lit, k.place)
			}
			if impl.Depth(k.c) < 0 {
				t.Errorf("literal %d as %s: depth %d", lit, k.place, impl.Depth(k.c))
			}
		}
	}
}

func TestLiteralsOfNoVariable(t *testing.T) {
	wrong := []int{
		-1, -2, -3, -4, -5, -6, -7, -1 << 32, math.MinInt, math.MinInt + 1,
		6, 7, 8, 9, 10, 1 << 32, 1<<32 + 1, math.MaxInt, math.MaxInt - 1, math.MaxInt/2 + 1,
	}
	for _, lit := range wrong {
		for _, k := range placements(lit) {
			checkInvalid(t, k.place, k.c)
		}
	}
}

func TestLiteralsOfVariableZero(t *testing.T) {
	for lit := range 2 {
		checkValid(t, "operand", impl.Circuit{Gates: []impl.Gate{{A: lit, B: lit}}, Outs: []int{2}}, 2, 1)
		checkValid(t, "next state", impl.Circuit{Next: []int{lit}}, 2, 0)
		checkValid(t, "output", impl.Circuit{Outs: []int{lit}}, 1, 0)
	}
	// In the circuit without anything variable 0 is the only one.
	for _, lit := range []int{-2, -1, 2, 3} {
		checkInvalid(t, "output", impl.Circuit{Outs: []int{lit}})
	}
}

func withLastGate(c impl.Circuit, g impl.Gate) impl.Circuit {
	c.Gates = append(slices.Clone(c.Gates), g)
	return c
}

func withoutLastGate(c impl.Circuit) impl.Circuit {
	c.Gates = slices.Clone(c.Gates[:len(c.Gates)-1])
	return c
}

// lastGateUsed reports whether an output or next-state literal refers to the last gate.
func lastGateUsed(c impl.Circuit) bool {
	last := c.Inputs + len(c.Next) + len(c.Gates)
	for _, lit := range slices.Concat(c.Next, c.Outs) {
		if lit == 2*last || lit == 2*last+1 {
			return true
		}
	}
	return false
}

// Promise 34.
func TestGateThatRefersToItself(t *testing.T) {
	base := counter()
	for i := range base.Gates {
		own := 1 + base.Inputs + len(base.Next) + i
		for v := own; v <= own+3; v++ {
			for _, lit := range []int{2 * v, 2*v + 1} {
				c := counter()
				c.Gates[i].A = lit
				checkInvalid(t, "first operand", c)
				c = counter()
				c.Gates[i].B = lit
				checkInvalid(t, "second operand", c)
			}
		}
		c := counter()
		c.Gates[i] = impl.Gate{A: 2*own - 2, B: 2*own - 1}
		if !impl.CircuitValid(c) {
			t.Errorf("gate %d may refer to the variable before its own", i)
		}
	}
}

// Promise 34.
func TestRemovingTheLastGate(t *testing.T) {
	checkInvalid(t, "the next state uses the last gate", withoutLastGate(counter()))
	checkInvalid(t, "the output uses the last gate", withoutLastGate(chain()))
	checkValid(t, "nothing uses the last gate", withoutLastGate(withLastGate(counter(), impl.Gate{A: 11, B: 0})), 6, 2)
	for c := range smallCircuits {
		if len(c.Gates) == 0 || !impl.CircuitValid(c) {
			continue
		}
		if impl.CircuitValid(withoutLastGate(c)) == lastGateUsed(c) {
			t.Fatalf("without its last gate: %v", c)
		}
	}
}

// Promise 35.
func TestVariablesWithoutGaps(t *testing.T) {
	for inputs := 0; inputs <= impl.MaxInputs; inputs++ {
		for latches := 0; latches <= impl.MaxLatches; latches++ {
			for gates := 0; gates <= impl.MaxGates; gates++ {
				checkHighestLiteral(t, inputs, latches, gates)
			}
		}
	}
}

// checkHighestLiteral requires that the last variable exists and the one after it does not.
func checkHighestLiteral(t *testing.T, inputs int, latches int, gates int) {
	t.Helper()
	count := 1 + inputs + latches + gates
	c := impl.Circuit{Inputs: inputs, Next: make([]int, latches), Gates: make([]impl.Gate, gates), Outs: []int{2*count - 1}}
	checkValid(t, "last variable", c, count, min(gates, 1))
	c.Outs[0] = 2 * count
	checkInvalid(t, "one past the last variable", c)
	c.Outs[0] = 0
	if latches > 0 {
		c.Next[latches-1] = 2*count - 1
		checkValid(t, "last variable as next state", c, count, min(gates, 1))
		c.Next[latches-1] = 2 * count
		checkInvalid(t, "one past the last variable as next state", c)
	}
}

func TestLevels(t *testing.T) {
	gates := []impl.Gate{{A: 2, B: 4}, {A: 6, B: 0}, {A: 3, B: 9}, {A: 10, B: 7}, {A: 1, B: 2}}
	want := []int{0, 0, 0, 1, 2, 3, 4, 1}
	for v, level := range want {
		for _, lit := range []int{2 * v, 2*v + 1} {
			checkValid(t, "output", impl.Circuit{Inputs: 1, Next: []int{0}, Gates: gates, Outs: []int{lit}}, 8, level)
			checkValid(t, "next state", impl.Circuit{Inputs: 1, Next: []int{lit}, Gates: gates}, 8, level)
			checkValid(t, "both", impl.Circuit{Inputs: 1, Next: []int{lit}, Gates: gates, Outs: []int{0, 7, 1}}, 8, max(level, 1))
		}
	}
	checkValid(t, "gates that nothing uses", impl.Circuit{Inputs: 2, Gates: gates}, 8, 0)
}

// Promise 36.
func TestDepthIsBounded(t *testing.T) {
	for c := range smallCircuits {
		if !impl.CircuitValid(c) {
			continue
		}
		depth := impl.Depth(c)
		if depth < 0 || depth > len(c.Gates) {
			t.Fatalf("depth %d: %v", depth, c)
		}
		if got := impl.Depth(complementOuts(c)); got != depth {
			t.Fatalf("depth %d, with complemented outputs %d: %v", depth, got, c)
		}
	}
}

func complementOuts(c impl.Circuit) impl.Circuit {
	outs := []int{}
	for _, lit := range c.Outs {
		outs = append(outs, lit^1)
	}
	c.Outs = outs
	return c
}

// smallCircuits yields circuits of at most one input, one latch, two gates and one output, with literals from below 0 to past the last variable.
func smallCircuits(yield func(impl.Circuit) bool) {
	for inputs := range 2 {
		for _, next := range literalLists() {
			for _, outs := range literalLists() {
				for _, gates := range gateLists() {
					if !yield(impl.Circuit{Inputs: inputs, Next: next, Gates: gates, Outs: outs}) {
						return
					}
				}
			}
		}
	}
}

func literalLists() [][]int {
	lists := [][]int{nil}
	for lit := -2; lit <= 10; lit++ {
		lists = append(lists, []int{lit})
	}
	return lists
}

// gateLists has all first gates but few second ones: their product would take too long.
func gateLists() [][]impl.Gate {
	lists := [][]impl.Gate{nil}
	for a := -2; a <= 8; a++ {
		for b := -2; b <= 8; b++ {
			first := impl.Gate{A: a, B: b}
			lists = append(lists, []impl.Gate{first})
			for _, lit := range []int{-1, 0, 1, 2, 5, 6, 7, 8, 9} {
				lists = append(lists, []impl.Gate{first, {A: 1, B: lit}}, []impl.Gate{first, {A: lit, B: 1}})
			}
		}
	}
	return lists
}

// modelValid says by bounds on the literals themselves, without variables, what CircuitValid must say.
func modelValid(c impl.Circuit) bool {
	bound := 2 * (1 + c.Inputs + len(c.Next))
	for i, g := range c.Gates {
		if min(g.A, g.B) < 0 || max(g.A, g.B) >= bound+2*i {
			return false
		}
	}
	bound += 2 * len(c.Gates)
	for _, lit := range slices.Concat(c.Next, c.Outs) {
		if lit < 0 || lit >= bound {
			return false
		}
	}
	return true
}

// modelLevel follows the definition of a level from a literal down to the inputs.
func modelLevel(c impl.Circuit, lit int) int {
	i := lit/2 - (1 + c.Inputs + len(c.Next))
	if i < 0 {
		return 0
	}
	return 1 + max(modelLevel(c, c.Gates[i].A), modelLevel(c, c.Gates[i].B))
}

func modelDepth(c impl.Circuit) int {
	depth := 0
	for _, lit := range slices.Concat(c.Next, c.Outs) {
		depth = max(depth, modelLevel(c, lit))
	}
	return depth
}

func TestAllSmallCircuits(t *testing.T) {
	for c := range smallCircuits {
		if modelValid(c) {
			checkValid(t, "small circuit", c, 1+c.Inputs+len(c.Next)+len(c.Gates), modelDepth(c))
		} else {
			checkInvalid(t, "small circuit", c)
		}
		if t.Failed() {
			return
		}
	}
}

func TestArgumentsAreNotWritten(t *testing.T) {
	invalid := counter()
	invalid.Gates[1].A = 8
	for _, c := range []impl.Circuit{counter(), chain(), full(), invalid} {
		before := copyOf(c)
		impl.CircuitValid(c)
		impl.VarCount(c)
		impl.Depth(c)
		if !reflect.DeepEqual(c, before) {
			t.Errorf("changed: %v, before %v", c, before)
		}
	}
}

func copyOf(c impl.Circuit) impl.Circuit {
	c.Next = slices.Clone(c.Next)
	c.Gates = slices.Clone(c.Gates)
	c.Outs = slices.Clone(c.Outs)
	return c
}
