package tests

import (
	"fmt"
	"math"
	"math/bits"
	"reflect"
	"slices"
	"testing"

	"loop.example/fpgatoolchain/impl"
)

// truthTable has one bit for every assignment that a circuit may have: bit x is the value for the assignment with number x.
type truthTable [2]uint64

func (a truthTable) or(b truthTable) truthTable {
	return truthTable{a[0] | b[0], a[1] | b[1]}
}

func (a truthTable) and(b truthTable) truthTable {
	return truthTable{a[0] & b[0], a[1] & b[1]}
}

func (a truthTable) xor(b truthTable) truthTable {
	return truthTable{a[0] ^ b[0], a[1] ^ b[1]}
}

func (a truthTable) has(x int) bool {
	return a[x/64]>>(x%64)&1 == 1
}

// first returns the lowest number in the table, -1 if there is none.
func (a truthTable) first() int {
	switch {
	case a[0] != 0:
		return bits.TrailingZeros64(a[0])
	case a[1] != 0:
		return 64 + bits.TrailingZeros64(a[1])
	}
	return -1
}

// constantTable has the same value for the first count assignments, and no others.
func constantTable(value bool, count int) truthTable {
	return tableWhere(count, func(int) bool { return value })
}

func tableWhere(count int, holds func(x int) bool) truthTable {
	table := truthTable{}
	for x := range count {
		if holds(x) {
			table[x/64] |= 1 << (x % 64)
		}
	}
	return table
}

func assignmentCount(c impl.Circuit) int {
	return 1 << (c.Inputs + len(c.Next))
}

// modelTables computes all variables of a circuit for all assignments at once, with the variable of the fault held at the stuck value. The fault without a value, constant false stuck at 0, leaves the circuit correct.
func modelTables(c impl.Circuit, f impl.Fault) []truthTable {
	count := assignmentCount(c)
	tables := []truthTable{}
	put := func(table truthTable) {
		if len(tables) == f.Var {
			table = constantTable(f.Value, count)
		}
		tables = append(tables, table)
	}
	put(truthTable{})
	for i := range c.Inputs + len(c.Next) {
		put(tableWhere(count, func(x int) bool { return x>>i&1 == 1 }))
	}
	for _, g := range c.Gates {
		put(tableOf(c, tables, g.A).and(tableOf(c, tables, g.B)))
	}
	return tables
}

func tableOf(c impl.Circuit, tables []truthTable, lit int) truthTable {
	return tables[lit/2].xor(constantTable(lit%2 == 1, assignmentCount(c)))
}

// modelDetecting returns the assignments that detect a fault.
func modelDetecting(c impl.Circuit, f impl.Fault) truthTable {
	correct, faulty := modelTables(c, impl.Fault{}), modelTables(c, f)
	differ := truthTable{}
	for _, lit := range slices.Concat(c.Outs, c.Next) {
		differ = differ.or(tableOf(c, correct, lit).xor(tableOf(c, faulty, lit)))
	}
	return differ
}

// at0 and at1 are the faults of a variable.
func at0(v int) impl.Fault {
	return impl.Fault{Var: v}
}

func at1(v int) impl.Fault {
	return impl.Fault{Var: v, Value: true}
}

func modelFaults(c impl.Circuit) []impl.Fault {
	list := []impl.Fault{}
	for v := range c.Inputs + len(c.Next) + len(c.Gates) {
		list = append(list, at0(v+1), at1(v+1))
	}
	return list
}

// modelTestSet crosses out the faults that an assignment detects as soon as it is chosen.
func modelTestSet(detecting []truthTable) []int {
	chosen := []int{}
	found := make([]bool, len(detecting))
	for i, table := range detecting {
		x := table.first()
		if found[i] || x < 0 {
			continue
		}
		chosen = append(chosen, x)
		for j, other := range detecting {
			found[j] = found[j] || other.has(x)
		}
	}
	return chosen
}

// farAssignments are numbers of no assignment of any circuit.
func farAssignments() []int {
	return append(farNets(), 129, 192, 1<<7, 1<<20, 1<<32+3, 1<<33, 1<<62, 1<<62+1, 1-1<<62)
}

// checkNotDetected requires that no assignment detects a fault that there is not or that nothing shows.
func checkNotDetected(t *testing.T, name string, c impl.Circuit, f impl.Fault) {
	t.Helper()
	if got := impl.FindTest(c, f); got != -1 {
		t.Fatalf("%s: test %d for %v: %v", name, got, f, c)
	}
	for x := -1; x <= 128; x++ {
		if impl.Detects(c, f, x) {
			t.Fatalf("%s: %d detects %v: %v", name, x, f, c)
		}
	}
}

// checkFault requires promises 60 and 61 for one fault.
func checkFault(t *testing.T, name string, c impl.Circuit, f impl.Fault, detecting truthTable) {
	t.Helper()
	count := assignmentCount(c)
	for x := range count {
		if got := impl.Detects(c, f, x); got != detecting.has(x) {
			t.Fatalf("%s: %d detects %v: %v: %v", name, x, f, got, c)
		}
	}
	if impl.Detects(c, f, -1) || impl.Detects(c, f, count) {
		t.Fatalf("%s: an assignment that there is not detects %v: %v", name, f, c)
	}
	if got, want := impl.FindTest(c, f), detecting.first(); got != want {
		t.Fatalf("%s: test %d for %v, want %d: %v", name, got, f, want, c)
	}
}

// checkLists requires promises 7 and 62: the lists of all faults, of the undetectable ones and of the tests.
func checkLists(t *testing.T, name string, c impl.Circuit, faults []impl.Fault, undetectable []impl.Fault, chosen []int) {
	t.Helper()
	if got := impl.Faults(c); !slices.Equal(got, faults) {
		t.Fatalf("%s: faults %v, want %v: %v", name, got, faults, c)
	}
	if got := impl.Undetectable(c); !slices.Equal(got, undetectable) {
		t.Fatalf("%s: undetectable %v, want %v: %v", name, got, undetectable, c)
	}
	if got := impl.TestSet(c); !slices.Equal(got, chosen) {
		t.Fatalf("%s: tests %v, want %v: %v", name, got, chosen, c)
	}
}

// checkFaults requires promises 7, 60, 61 and 62 of a valid circuit, by the model alone.
func checkFaults(t *testing.T, name string, c impl.Circuit) {
	t.Helper()
	faults, undetectable := modelFaults(c), []impl.Fault{}
	detecting := []truthTable{}
	for _, f := range faults {
		table := modelDetecting(c, f)
		checkFault(t, name, c, f, table)
		if table.first() < 0 {
			undetectable = append(undetectable, f)
		}
		detecting = append(detecting, table)
	}
	checkLists(t, name, c, faults, undetectable, modelTestSet(detecting))
	for _, v := range []int{-1, 0, len(faults)/2 + 1} {
		checkNotDetected(t, name, c, at0(v))
		checkNotDetected(t, name, c, at1(v))
	}
}

// heldAt returns the circuit in which all uses of the variable of a fault are replaced by the stuck value.
func heldAt(c impl.Circuit, f impl.Fault) impl.Circuit {
	replace := func(lit int) int {
		if lit/2 != f.Var {
			return lit
		}
		if f.Value {
			return lit%2 ^ 1
		}
		return lit % 2
	}
	held := impl.Circuit{Inputs: c.Inputs, Next: each(c.Next, replace), Outs: each(c.Outs, replace)}
	for _, g := range c.Gates {
		held.Gates = append(held.Gates, impl.Gate{A: replace(g.A), B: replace(g.B)})
	}
	return held
}

// checkHeld requires promises 60, 61 and 62 by what the earlier chapters say of the circuit in which the variable is held at the stuck value.
func checkHeld(t *testing.T, name string, c impl.Circuit) {
	t.Helper()
	undetectable := impl.Undetectable(c)
	for _, f := range impl.Faults(c) {
		held := heldAt(c, f)
		for x := range assignmentCount(c) {
			state, in := bitsOf(x>>c.Inputs, len(c.Next)), bitsOf(x, c.Inputs)
			want, got := impl.Step(c, state, in), impl.Step(held, state, in)
			differ := !slices.Equal(got.Outs, want.Outs) || !slices.Equal(got.State, want.State)
			detects := impl.Detects(c, f, x)
			if detects != differ {
				t.Fatalf("%s: %d detects %v: %v, with the variable held: %v: %v", name, x, f, detects, differ, c)
			}
			if detects && impl.EvalVars(c, state, in)[f.Var] == f.Value {
				t.Fatalf("%s: %d detects %v although the variable has this value: %v", name, x, f, c)
			}
		}
		d := impl.FindDifference(c, held)
		if want := numberOf(d); impl.FindTest(c, f) != want {
			t.Fatalf("%s: test %d for %v, difference %v: %v", name, impl.FindTest(c, f), f, d, c)
		}
		if redundant := impl.Equivalent(c, held); slices.Contains(undetectable, f) != redundant {
			t.Fatalf("%s: %v is redundant: %v: %v", name, f, redundant, c)
		}
	}
}

// numberOf returns the number of the assignment of a counterexample, -1 if there is none.
func numberOf(d impl.Counterexample) int {
	if !d.Found {
		return -1
	}
	x := 0
	for i, value := range slices.Concat(d.In, d.State) {
		if value {
			x |= 1 << i
		}
	}
	return x
}

// checkTestSet requires promise 7 as it is said, with the functions of this chapter alone.
func checkTestSet(t *testing.T, name string, c impl.Circuit) {
	t.Helper()
	faults, chosen := impl.Faults(c), impl.TestSet(c)
	detected := func(f impl.Fault, tests []int) bool {
		return slices.ContainsFunc(tests, func(x int) bool { return impl.Detects(c, f, x) })
	}
	for _, f := range faults {
		if detected(f, chosen) == slices.Contains(impl.Undetectable(c), f) {
			t.Fatalf("%s: %v and the tests %v: %v", name, f, chosen, c)
		}
	}
	for i, x := range chosen {
		if !slices.ContainsFunc(faults, func(f impl.Fault) bool { return impl.FindTest(c, f) == x && !detected(f, chosen[:i]) }) {
			t.Fatalf("%s: test %d of %v is needed for no fault: %v", name, i, chosen, c)
		}
	}
}

// checkAllOfFaults requires of a valid circuit all that the specification says of its faults.
func checkAllOfFaults(t *testing.T, name string, c impl.Circuit) {
	t.Helper()
	checkFaults(t, name, c)
	checkHeld(t, name, c)
	checkTestSet(t, name, c)
}

// faultCase is a circuit with the assignments that detect each of its faults, in the order of the faults, with its tests and its undetectable faults.
type faultCase struct {
	name         string
	c            impl.Circuit
	detecting    [][]int
	tests        []int
	undetectable []impl.Fault
}

// faultsWithoutGates are those of inputs and latches.
func faultsWithoutGates() []faultCase {
	return []faultCase{
		{"nothing", impl.Circuit{}, nil, nil, nil},
		{"constant outputs", impl.Circuit{Outs: []int{0, 1, 0}}, nil, nil, nil},
		{"input that nothing uses", impl.Circuit{Inputs: 1}, [][]int{{}, {}}, nil, []impl.Fault{at0(1), at1(1)}},
		{"input beside constants", impl.Circuit{Inputs: 1, Next: []int{1}, Outs: []int{0, 1}}, [][]int{{}, {}, {}, {}}, nil, []impl.Fault{at0(1), at1(1), at0(2), at1(2)}},
		{"input", impl.Circuit{Inputs: 1, Outs: []int{2}}, [][]int{{1}, {0}}, []int{1, 0}, nil},
		{"complemented input", impl.Circuit{Inputs: 1, Outs: []int{3}}, [][]int{{1}, {0}}, []int{1, 0}, nil},
		{"input at several outputs", impl.Circuit{Inputs: 1, Outs: []int{2, 3, 2}}, [][]int{{1}, {0}}, []int{1, 0}, nil},
		{"input at the last output", impl.Circuit{Inputs: 1, Outs: []int{1, 0, 3}}, [][]int{{1}, {0}}, []int{1, 0}, nil},
		{"second input", impl.Circuit{Inputs: 2, Outs: []int{4}}, [][]int{{}, {}, {2, 3}, {0, 1}}, []int{2, 0}, []impl.Fault{at0(1), at1(1)}},
		{"three inputs", impl.Circuit{Inputs: 3, Outs: []int{2, 5, 6}}, [][]int{{1, 3, 5, 7}, {0, 2, 4, 6}, {2, 3, 6, 7}, {0, 1, 4, 5}, {4, 5, 6, 7}, {0, 1, 2, 3}}, []int{1, 0, 2, 4}, nil},
		{"latch that nothing uses", impl.Circuit{Next: []int{0}}, [][]int{{}, {}}, nil, []impl.Fault{at0(1), at1(1)}},
		{"latch that keeps its value", impl.Circuit{Next: []int{2}}, [][]int{{1}, {0}}, []int{1, 0}, nil},
		{"latch that changes", impl.Circuit{Next: []int{3}}, [][]int{{1}, {0}}, []int{1, 0}, nil},
		{"latch as output", impl.Circuit{Next: []int{1}, Outs: []int{2}}, [][]int{{1}, {0}}, []int{1, 0}, nil},
		// A stuck latch has a next state all the same, which is the input.
		{"latch that takes the input", impl.Circuit{Inputs: 1, Next: []int{2}}, [][]int{{1, 3}, {0, 2}, {}, {}}, []int{1, 0}, []impl.Fault{at0(2), at1(2)}},
		{"latch that takes the input, as output", impl.Circuit{Inputs: 1, Next: []int{2}, Outs: []int{4}}, [][]int{{1, 3}, {0, 2}, {2, 3}, {0, 1}}, []int{1, 0, 2}, nil},
		{"latches that exchange their values", impl.Circuit{Next: []int{4, 2}}, [][]int{{1, 3}, {0, 2}, {2, 3}, {0, 1}}, []int{1, 0, 2}, nil},
		{"latches that take one value", impl.Circuit{Next: []int{5, 4}}, [][]int{{}, {}, {2, 3}, {0, 1}}, []int{2, 0}, []impl.Fault{at0(1), at1(1)}},
	}
}

// faultsOfOneGate are those of one gate and its operands.
func faultsOfOneGate() []faultCase {
	and := [][]int{{3}, {2}, {3}, {1}, {3}, {0, 1, 2}}
	nor := [][]int{{1}, {0}, {2}, {0}, {0}, {1, 2, 3}}
	mixed := [][]int{{1}, {0}, {3}, {1}, {1}, {0, 2, 3}}
	gate := func(inputs int, a int, b int, outs ...int) impl.Circuit {
		return impl.Circuit{Inputs: inputs, Gates: []impl.Gate{{A: a, B: b}}, Outs: outs}
	}
	unused := []impl.Fault{at0(1), at1(1), at0(2), at1(2), at0(3), at1(3)}
	return []faultCase{
		{"and", gate(2, 2, 4, 6), and, []int{3, 2, 1}, nil},
		{"and, exchanged", gate(2, 4, 2, 6), and, []int{3, 2, 1}, nil},
		{"not and", gate(2, 2, 4, 7), and, []int{3, 2, 1}, nil},
		{"and at several outputs", gate(2, 2, 4, 0, 7, 6), and, []int{3, 2, 1}, nil},
		{"not or", gate(2, 3, 5, 6), nor, []int{1, 0, 2}, nil},
		{"or", gate(2, 5, 3, 7), nor, []int{1, 0, 2}, nil},
		{"one complement", gate(2, 2, 5, 6), mixed, []int{1, 0, 3}, nil},
		{"gate that nothing uses", gate(2, 2, 4), [][]int{{}, {}, {}, {}, {}, {}}, nil, unused},
		{"gate beside an output", gate(2, 2, 4, 4), [][]int{{}, {}, {2, 3}, {0, 1}, {}, {}}, []int{2, 0}, []impl.Fault{at0(1), at1(1), at0(3), at1(3)}},
		{"gate and its operand", gate(2, 2, 4, 6, 3), [][]int{{1, 3}, {0, 2}, {3}, {1}, {3}, {0, 1, 2}}, []int{1, 0, 3}, nil},
		{"equal operands", gate(1, 2, 2, 4), [][]int{{1}, {0}, {1}, {0}}, []int{1, 0}, nil},
		{"complementary operands", gate(1, 2, 3, 4), [][]int{{}, {}, {}, {0, 1}}, []int{0}, []impl.Fault{at0(1), at1(1), at0(2)}},
		{"complementary operands, complemented", gate(1, 3, 2, 5), [][]int{{}, {}, {}, {0, 1}}, []int{0}, []impl.Fault{at0(1), at1(1), at0(2)}},
		{"operand true", gate(1, 2, 1, 4), [][]int{{1}, {0}, {1}, {0}}, []int{1, 0}, nil},
		{"operand false", gate(1, 0, 2, 4), [][]int{{}, {}, {}, {0, 1}}, []int{0}, []impl.Fault{at0(1), at1(1), at0(2)}},
		{"always false", gate(0, 0, 0, 2), [][]int{{}, {0}}, []int{0}, []impl.Fault{at0(1)}},
		{"always true", gate(0, 1, 1, 2), [][]int{{0}, {}}, []int{0}, []impl.Fault{at1(1)}},
		{"always true, complemented", gate(0, 1, 1, 3), [][]int{{0}, {}}, []int{0}, []impl.Fault{at1(1)}},
		{"always true, and nothing uses it", gate(0, 1, 1, 1), [][]int{{}, {}}, nil, []impl.Fault{at0(1), at1(1)}},
		{"next state", impl.Circuit{Inputs: 1, Next: []int{6}, Gates: []impl.Gate{{A: 2, B: 4}}}, and, []int{3, 2, 1}, nil},
		{"complemented next state", impl.Circuit{Inputs: 1, Next: []int{7}, Gates: []impl.Gate{{A: 5, B: 3}}}, nor, []int{1, 0, 2}, nil},
		{"next states of two latches", impl.Circuit{Next: []int{0, 7}, Gates: []impl.Gate{{A: 2, B: 5}}}, mixed, []int{1, 0, 3}, nil},
	}
}

// chosen is a multiplexer: the first input chooses the second or else the third.
func chosenInput() impl.Circuit {
	return impl.Circuit{Inputs: 3, Gates: []impl.Gate{{A: 2, B: 4}, {A: 3, B: 6}, {A: 9, B: 11}}, Outs: []int{13}}
}

// faultsOfSeveralGates are those of circuits in which every fault can be detected.
func faultsOfSeveralGates() []faultCase {
	halfAdder := withTwoInputs([]int{10, 6}, impl.Gate{A: 2, B: 4}, impl.Gate{A: 3, B: 5}, impl.Gate{A: 7, B: 9})
	return []faultCase{
		{"counter", counter(), [][]int{{1, 3}, {0, 2}, {2, 3}, {0, 1}, {3}, {1, 2}, {0}, {1, 2}, {1, 2}, {0, 3}}, []int{1, 0, 2, 3}, nil},
		{"half adder", halfAdder, [][]int{{1, 3}, {0, 2}, {2, 3}, {0, 1}, {3}, {0, 1, 2}, {0}, {1, 2}, {1, 2}, {0, 3}}, []int{1, 0, 2, 3}, nil},
		{"multiplexer", chosenInput(), [][]int{{3, 5}, {2, 4}, {3, 7}, {1, 5}, {4, 6}, {0, 2}, {3, 7}, {0, 1, 2, 5}, {4, 6}, {0, 1, 2, 5}, {0, 1, 2, 5}, {3, 4, 6, 7}}, []int{3, 2, 1, 4}, nil},
		{"and and its use", withTwoInputs([]int{8}, impl.Gate{A: 2, B: 4}, impl.Gate{A: 2, B: 6}), [][]int{{3}, {2}, {3}, {1}, {3}, {1}, {3}, {0, 1, 2}}, []int{3, 2, 1}, nil},
	}
}

// safeMultiplexer is the multiplexer with a redundant gate that does not depend on the choice.
func safeMultiplexer() impl.Circuit {
	c := chosenInput()
	c.Gates = []impl.Gate{{A: 2, B: 4}, {A: 3, B: 6}, {A: 4, B: 6}, {A: 9, B: 11}, {A: 13, B: 14}}
	c.Outs = []int{17}
	return c
}

// faultsOfRedundantGates are those of circuits in which a gate can be replaced by a constant.
func faultsOfRedundantGates() []faultCase {
	and := impl.Gate{A: 2, B: 4}
	allOf := func(vars ...int) []impl.Fault {
		list := []impl.Fault{}
		for _, v := range vars {
			list = append(list, at0(v), at1(v))
		}
		return list
	}
	return []faultCase{
		{"an input and what it implies", withTwoInputs([]int{8}, impl.Gate{A: 3, B: 5}, impl.Gate{A: 2, B: 7}), [][]int{{1, 3}, {0, 2}, {}, {}, {}, {1, 3}, {1, 3}, {0, 2}}, []int{1, 0}, []impl.Fault{at0(2), at1(2), at0(3)}},
		{"multiplexer", safeMultiplexer(), [][]int{{3, 5}, {2, 4}, {3, 7}, {1, 5}, {4, 6}, {0, 2}, {3}, {0, 1, 2, 5}, {4}, {0, 1, 2, 5}, {}, {0, 1, 2, 5}, {0, 1, 2, 5}, {3, 4}, {0, 1, 2, 5}, {3, 4, 6, 7}}, []int{3, 2, 1, 4}, []impl.Fault{at0(6)}},
		{"gate that is there twice", withTwoInputs([]int{10}, and, impl.Gate{A: 4, B: 2}, impl.Gate{A: 6, B: 8}), [][]int{{3}, {2}, {3}, {1}, {3}, {}, {3}, {}, {3}, {0, 1, 2}}, []int{3, 2, 1}, []impl.Fault{at1(3), at1(4)}},
		{"gate and its complement", withTwoInputs([]int{8}, and, impl.Gate{A: 6, B: 7}), [][]int{{}, {}, {}, {}, {}, {}, {}, {0, 1, 2, 3}}, []int{0}, append(allOf(1, 2, 3), at0(4))},
		{"gate that is masked", withTwoInputs([]int{9}, and, impl.Gate{A: 0, B: 7}), [][]int{{}, {}, {}, {}, {}, {}, {}, {0, 1, 2, 3}}, []int{0}, append(allOf(1, 2, 3), at0(4))},
		{"gate that nothing uses", withTwoInputs([]int{6}, and, impl.Gate{A: 2, B: 6}), [][]int{{3}, {2}, {3}, {1}, {3}, {0, 1, 2}, {}, {}}, []int{3, 2, 1}, allOf(4)},
		{"gates that nothing uses", withTwoInputs([]int{1}, and, impl.Gate{A: 2, B: 6}), [][]int{{}, {}, {}, {}, {}, {}, {}, {}}, nil, allOf(1, 2, 3, 4)},
		{"gate that only an unused one uses", withTwoInputs([]int{5}, and, impl.Gate{A: 2, B: 6}), [][]int{{}, {}, {2, 3}, {0, 1}, {}, {}, {}, {}}, []int{2, 0}, append(allOf(1), allOf(3, 4)...)},
		{"gate whose operand is always true", withTwoInputs([]int{8}, impl.Gate{A: 1, B: 1}, impl.Gate{A: 4, B: 6}), [][]int{{}, {}, {2, 3}, {0, 1}, {2, 3}, {}, {2, 3}, {0, 1}}, []int{2, 0}, append(allOf(1), at1(3))},
		{"gate whose operand is always false", withTwoInputs([]int{8}, impl.Gate{A: 2, B: 3}, impl.Gate{A: 4, B: 6}), [][]int{{}, {}, {}, {}, {}, {2, 3}, {}, {0, 1, 2, 3}}, []int{2}, append(allOf(1, 2), at0(3), at0(4))},
		{"next state that is always false", impl.Circuit{Inputs: 1, Next: []int{8}, Gates: []impl.Gate{and, {A: 3, B: 6}}, Outs: []int{4}}, [][]int{{}, {}, {2, 3}, {0, 1}, {}, {0, 2}, {}, {0, 1, 2, 3}}, []int{2, 0}, append(allOf(1), at0(3), at0(4))},
	}
}

func faultCases() []faultCase {
	return slices.Concat(faultsWithoutGates(), faultsOfOneGate(), faultsOfSeveralGates(), faultsOfRedundantGates())
}

// Promises 7, 60, 61 and 62: the results are written out, so that this test does not depend on a model.
func TestKnownFaults(t *testing.T) {
	for _, k := range faultCases() {
		count := assignmentCount(k.c)
		faults := []impl.Fault{}
		for i, numbers := range k.detecting {
			f := impl.Fault{Var: 1 + i/2, Value: i%2 == 1}
			checkFault(t, k.name, k.c, f, tableWhere(count, func(x int) bool { return slices.Contains(numbers, x) }))
			faults = append(faults, f)
		}
		checkLists(t, k.name, k.c, faults, k.undetectable, k.tests)
	}
}

// Promises 7, 60, 61 and 62.
func TestKnownFaultsByTheModel(t *testing.T) {
	for _, k := range faultCases() {
		checkAllOfFaults(t, k.name, k.c)
	}
}

// widest is true for the last of 128 assignments alone: gate i is the conjunction of the variables 1 to i+2.
func widest() impl.Circuit {
	c := impl.Circuit{Inputs: 4, Next: []int{0, 0, 0}, Outs: []int{26}}
	before := 2
	for i := range 6 {
		c.Gates = append(c.Gates, impl.Gate{A: before, B: 4 + 2*i})
		before = 16 + 2*i
	}
	return c
}

// Promises 7 and 61: the inputs are the lower digits, the latches the upper ones.
func TestNumbersOfTests(t *testing.T) {
	c := widest()
	for v := 1; v <= 7; v++ {
		checkFault(t, "one stuck at 0", c, at0(v), tableWhere(128, func(x int) bool { return x == 127 }))
		checkFault(t, "one stuck at 1", c, at1(v), tableWhere(128, func(x int) bool { return x == 127-1<<(v-1) }))
	}
	for i, want := range []int{124, 120, 112, 96, 64, 0} {
		checkFault(t, "gate stuck at 0", c, at0(8+i), tableWhere(128, func(x int) bool { return x == 127 }))
		upper := 127 &^ (1<<(i+2) - 1)
		checkFault(t, "gate stuck at 1", c, at1(8+i), tableWhere(128, func(x int) bool { return x != 127 && x&upper == upper }))
		if got := impl.FindTest(c, at1(8+i)); got != want {
			t.Errorf("gate %d stuck at 1: test %d, want %d", i, got, want)
		}
	}
	checkLists(t, "conjunction of all", c, modelFaults(c), nil, []int{127, 126, 125, 123, 119, 111, 95, 63})
}

// Promise 7: one assignment detects every fault that can be detected, or all but one.
func TestFewTests(t *testing.T) {
	undetectable := []impl.Fault{}
	for v := 2; v <= 14; v++ {
		undetectable = append(undetectable, at1(v))
	}
	checkLists(t, "chain", chain(), modelFaults(chain()), undetectable, []int{1, 0})
	constants := impl.Circuit{Inputs: 3, Outs: []int{34}}
	for i := range impl.MaxGates {
		constants.Gates = append(constants.Gates, impl.Gate{A: 1, B: 7 + 2*i})
	}
	constants.Gates[0] = impl.Gate{A: 1, B: 1}
	undetectable = modelFaults(impl.Circuit{Inputs: 3})
	for i := range impl.MaxGates {
		undetectable = append(undetectable, impl.Fault{Var: 4 + i, Value: i%2 == 0})
	}
	checkLists(t, "complements of true", constants, modelFaults(constants), undetectable, []int{0})
}

// Promises 60 and 62: every literal as output or next state, of a circuit with two inputs, a latch and a gate.
func TestFaultsOfEveryLiteral(t *testing.T) {
	for lit := range 10 {
		for other := range 10 {
			c := impl.Circuit{Inputs: 2, Next: []int{lit}, Gates: []impl.Gate{{A: 5, B: 6}}, Outs: []int{other}}
			checkAllOfFaults(t, "next state and output", c)
			for last := range 10 {
				checkAllOfFaults(t, "two outputs", impl.Circuit{Inputs: 2, Next: []int{1}, Gates: []impl.Gate{{A: 5, B: 6}, {A: lit, B: last}}, Outs: []int{other, 10}})
			}
		}
	}
}

// Promises 7, 60, 61 and 62.
func TestFaultsOfNamedCircuits(t *testing.T) {
	for _, k := range append(compiledCircuits(), namedCircuits()...) {
		checkAllOfFaults(t, k.name, k.c)
	}
}

// Promise 62 for every size within the limits, and the others with it.
func TestFaultsOfEverySize(t *testing.T) {
	for k := range everySize {
		if got, want := len(impl.Faults(k.c)), 2*(impl.VarCount(k.c)-1); got != want {
			t.Fatalf("%s: %d faults, want %d", k.name, got, want)
		}
		checkFaults(t, k.name, k.c)
		checkTestSet(t, k.name, k.c)
	}
}

// Promises 7, 60, 61 and 62.
func TestFaultsOfSmallCircuits(t *testing.T) {
	for c := range smallCircuits {
		if impl.CircuitValid(c) {
			checkFaults(t, "small circuit", c)
		} else {
			checkNoFaults(t, "small circuit", c)
		}
	}
}

// Promises 7, 60, 61 and 62: all of these circuits would take long.
func TestFaultsOfThreeGates(t *testing.T) {
	n := 0
	for c := range threeGates {
		if n++; n%7 == 0 {
			checkFaults(t, "three gates", c)
		}
	}
}

// Promises 7, 60, 61 and 62 for circuits up to the limits.
func TestFaultsOfMixedCircuits(t *testing.T) {
	tests, undetected := map[int]int{}, map[int]int{}
	for seed := range 1000 {
		for _, c := range []impl.Circuit{mixed(seed), impl.Optimize(crowded(seed))} {
			checkFaults(t, fmt.Sprint("mixed circuit ", seed), c)
			if seed%5 == 0 {
				checkHeld(t, fmt.Sprint("mixed circuit ", seed), c)
				checkTestSet(t, fmt.Sprint("mixed circuit ", seed), c)
			}
			tests[min(len(impl.TestSet(c)), 7)]++
			undetected[min(len(impl.Undetectable(c)), 7)]++
		}
	}
	// Circuits of one kind alone would test little.
	for n := range 8 {
		if tests[n] < 20 || undetected[n] < 20 {
			t.Errorf("%d circuits with %d tests, %d with as many undetectable faults", tests[n], n, undetected[n])
		}
	}
}

// Promise 60: variables that are none, and constant false.
func TestFaultsOfNoVariable(t *testing.T) {
	for _, k := range simulated() {
		for _, v := range append(farNets(), 0, impl.VarCount(k.c), impl.VarCount(k.c)+1, 2*impl.VarCount(k.c)) {
			if v > 0 && v < impl.VarCount(k.c) {
				continue
			}
			checkNotDetected(t, k.name, k.c, at0(v))
			checkNotDetected(t, k.name, k.c, at1(v))
		}
	}
	// Constant false stuck at 1 would change this output.
	checkNotDetected(t, "constant output", impl.Circuit{Outs: []int{0}}, at1(0))
	checkNotDetected(t, "constant operand", impl.Circuit{Inputs: 1, Gates: []impl.Gate{{A: 2, B: 0}}, Outs: []int{4}}, at1(0))
}

// Promise 60: numbers of no assignment.
func TestNumbersOfNoAssignment(t *testing.T) {
	for k := range everySize {
		if len(k.c.Gates)%7 != 0 {
			continue
		}
		count := assignmentCount(k.c)
		for _, x := range append(farAssignments(), count, count+1, 2*count, 3*count-1, -count, 1-count, 1<<32+count-1) {
			if x >= 0 && x < count {
				continue
			}
			for _, f := range impl.Faults(k.c) {
				if impl.Detects(k.c, f, x) {
					t.Fatalf("%s: %d detects %v: %v", k.name, x, f, k.c)
				}
			}
		}
	}
}

// checkNoFaults requires what the functions return for an invalid circuit.
func checkNoFaults(t *testing.T, name string, c impl.Circuit) {
	t.Helper()
	checkLists(t, name, c, nil, nil, nil)
	for v := -1; v < 8; v++ {
		for _, f := range []impl.Fault{at0(v), at1(v)} {
			if got := impl.FindTest(c, f); got != -1 {
				t.Fatalf("%s: test %d for %v: %v", name, got, f, c)
			}
			for x := -1; x < 8; x++ {
				if impl.Detects(c, f, x) {
					t.Fatalf("%s: %d detects %v: %v", name, x, f, c)
				}
			}
		}
	}
}

func TestInvalidCircuitsHaveNoFaults(t *testing.T) {
	circuits := pastLimits()
	for _, k := range invalidCircuits() {
		circuits = append(circuits, k.c)
	}
	for _, c := range circuits {
		checkNoFaults(t, "invalid circuit", c)
		for _, v := range append(farNets(), inOrder(30)...) {
			checkNotDetected(t, "invalid circuit", c, at0(v))
			checkNotDetected(t, "invalid circuit", c, at1(v))
		}
		for _, x := range farAssignments() {
			if impl.Detects(c, at0(1), x) || impl.Detects(c, at1(1), x) || impl.Detects(c, at1(math.MinInt), x) {
				t.Fatalf("%d detects a fault of %v", x, c)
			}
		}
	}
}

// useFaults calls every function, with arguments of all kinds.
func useFaults(c impl.Circuit) {
	for _, f := range append(impl.Faults(c), at0(0), at1(-1), at0(99)) {
		for x := -1; x < 9; x++ {
			impl.Detects(c, f, x)
		}
		impl.FindTest(c, f)
	}
	impl.TestSet(c)
	impl.Undetectable(c)
}

func TestFaultsDoNotWriteTheirArguments(t *testing.T) {
	for _, k := range compiledCircuits() {
		c := roomy(k.c)
		useFaults(c)
		checkUnwritten(t, k.name, c, k.c)
	}
	for _, k := range invalidCircuits() {
		before := copyOf(k.c)
		useFaults(k.c)
		if !reflect.DeepEqual(k.c, before) {
			t.Errorf("%s: changed: %v, before %v", k.name, k.c, before)
		}
	}
}

// Spoiling a result must change neither the argument nor another result.
func TestFaultsShareNoMemory(t *testing.T) {
	for _, k := range faultCases() {
		c := roomy(k.c)
		faults, undetectable, tests := impl.Faults(c), impl.Undetectable(c), impl.TestSet(c)
		moreFaults, moreUndetectable, moreTests := impl.Faults(c), impl.Undetectable(c), impl.TestSet(c)
		spoilLists(faults, impl.Fault{Var: -5, Value: true})
		spoilLists(undetectable, impl.Fault{Var: -6, Value: true})
		spoilNumbers(tests)
		if !slices.Equal(moreFaults, modelFaults(k.c)) || !slices.Equal(moreUndetectable, k.undetectable) || !slices.Equal(moreTests, k.tests) {
			t.Errorf("%s: two results share memory", k.name)
		}
		checkUnwritten(t, k.name, c, k.c)
		checkLists(t, k.name, c, modelFaults(k.c), k.undetectable, k.tests)
		spoilNumbers(c.Next)
		spoilGates(c.Gates)
		spoilNumbers(c.Outs)
		if !slices.Equal(moreFaults, modelFaults(k.c)) || !slices.Equal(moreUndetectable, k.undetectable) || !slices.Equal(moreTests, k.tests) {
			t.Errorf("%s: a result changes with the circuit", k.name)
		}
	}
}

// A circuit whose next states and outputs are one slice is an ordinary argument.
func TestFaultsOfSharedArguments(t *testing.T) {
	lits := []int{9, 6, 1, 12}
	c := impl.Circuit{Next: lits[:3], Gates: []impl.Gate{{A: 4, B: 2}}, Outs: lits[:3]}
	checkAllOfFaults(t, "shared", c)
	if !slices.Equal(lits, []int{9, 6, 1, 12}) {
		t.Errorf("argument %v", lits)
	}
}

// Every call starts anew: neither a fault, nor a test, nor an invalid argument before leaves any state behind.
func TestFaultsKeepNoState(t *testing.T) {
	for range 3 {
		for _, k := range faultCases() {
			checkNoFaults(t, "too many inputs", impl.Circuit{Inputs: 5, Outs: []int{2}})
			checkNotDetected(t, k.name, k.c, at1(0))
			checkLists(t, k.name, k.c, modelFaults(k.c), k.undetectable, k.tests)
			checkLists(t, "multiplexer", safeMultiplexer(), modelFaults(safeMultiplexer()), []impl.Fault{at0(6)}, []int{3, 2, 1, 4})
		}
	}
}
