package tests

import (
	"math"
	"reflect"
	"slices"
	"testing"

	"loop.example/fpgatoolchain/impl"
)

// sameCircuit takes a nil and an empty slice as the same value.
func sameCircuit(a impl.Circuit, b impl.Circuit) bool {
	return a.Inputs == b.Inputs && slices.Equal(a.Next, b.Next) && slices.Equal(a.Gates, b.Gates) && slices.Equal(a.Outs, b.Outs)
}

// modelOptimize follows the definition of Optimize sentence by sentence and looks for a gate among all earlier ones.
func modelOptimize(c impl.Circuit) impl.Circuit {
	c = modelWithoutUnreached(c)
	first := 1 + c.Inputs + len(c.Next)
	lits := []int{}
	for v := range first {
		lits = append(lits, 2*v)
	}
	gates := []impl.Gate{}
	for _, g := range c.Gates {
		a, b := lits[g.A/2]^(g.A%2), lits[g.B/2]^(g.B%2)
		switch i := slices.Index(gates, impl.Gate{A: min(a, b), B: max(a, b)}); {
		case a == 0 || b == 0 || a == b^1:
			lits = append(lits, 0)
		case a == 1:
			lits = append(lits, b)
		case b == 1 || a == b:
			lits = append(lits, a)
		case i >= 0:
			lits = append(lits, 2*(first+i))
		default:
			lits = append(lits, 2*(first+len(gates)))
			gates = append(gates, impl.Gate{A: min(a, b), B: max(a, b)})
		}
	}
	rename := func(lit int) int { return lits[lit/2] ^ (lit % 2) }
	return modelWithoutUnreached(impl.Circuit{Inputs: c.Inputs, Next: each(c.Next, rename), Gates: gates, Outs: each(c.Outs, rename)})
}

// modelWithoutUnreached removes the gates that are not reached and counts, for every literal, those that are gone before it.
func modelWithoutUnreached(c impl.Circuit) impl.Circuit {
	first := 1 + c.Inputs + len(c.Next)
	reached := map[int]bool{}
	for _, lit := range slices.Concat(c.Next, c.Outs) {
		modelReach(c, lit, reached)
	}
	rename := func(lit int) int {
		gone := 0
		for v := first; v < lit/2; v++ {
			if !reached[v] {
				gone++
			}
		}
		return lit - 2*gone
	}
	gates := []impl.Gate{}
	for i, g := range c.Gates {
		if reached[first+i] {
			gates = append(gates, impl.Gate{A: rename(g.A), B: rename(g.B)})
		}
	}
	return impl.Circuit{Inputs: c.Inputs, Next: each(c.Next, rename), Gates: gates, Outs: each(c.Outs, rename)}
}

func modelReach(c impl.Circuit, lit int, reached map[int]bool) {
	i := lit/2 - (1 + c.Inputs + len(c.Next))
	if i >= 0 && !reached[lit/2] {
		reached[lit/2] = true
		modelReach(c, c.Gates[i].A, reached)
		modelReach(c, c.Gates[i].B, reached)
	}
}

func each(lits []int, change func(int) int) []int {
	changed := []int{}
	for _, lit := range lits {
		changed = append(changed, change(lit))
	}
	return changed
}

// Promise 40.
func checkNotLarger(t *testing.T, name string, c impl.Circuit, x impl.Circuit) {
	t.Helper()
	if len(x.Gates) > len(c.Gates) {
		t.Fatalf("%s: larger: %v, optimized %v", name, c, x)
	}
	if impl.Depth(x) > impl.Depth(c) {
		t.Fatalf("%s: deeper: %v, optimized %v", name, c, x)
	}
}

// Promise 41.
func checkNormalForm(t *testing.T, name string, x impl.Circuit) {
	t.Helper()
	uses := slices.Concat(x.Next, x.Outs)
	for i, g := range x.Gates {
		uses = append(uses, g.A, g.B)
		if g.A/2 == 0 || g.B/2 == 0 || g.A/2 == g.B/2 || g.A >= g.B {
			t.Fatalf("%s: operands of gate %d: %v", name, i, x)
		}
		if slices.Index(x.Gates, g) != i {
			t.Fatalf("%s: gate %d is there twice: %v", name, i, x)
		}
	}
	for i := range x.Gates {
		lit := 2 * (1 + x.Inputs + len(x.Next) + i)
		if !slices.Contains(uses, lit) && !slices.Contains(uses, lit+1) {
			t.Fatalf("%s: nothing uses gate %d: %v", name, i, x)
		}
	}
	if again := impl.Optimize(x); !sameCircuit(again, x) {
		t.Fatalf("%s: %v, optimized again %v", name, x, again)
	}
}

// checkSameBehaviour compares outputs and next state for every state and all inputs.
func checkSameBehaviour(t *testing.T, name string, c impl.Circuit, x impl.Circuit) {
	t.Helper()
	if !impl.CircuitValid(x) || x.Inputs != c.Inputs || len(x.Next) != len(c.Next) || len(x.Outs) != len(c.Outs) {
		t.Fatalf("%s: not valid or another interface: %v, optimized %v", name, c, x)
	}
	for n := range 1 << (c.Inputs + len(c.Next)) {
		state, in := bitsOf(n>>c.Inputs, len(c.Next)), bitsOf(n, c.Inputs)
		want, got := impl.Step(c, state, in), impl.Step(x, state, in)
		if !slices.Equal(got.Outs, want.Outs) || !slices.Equal(got.State, want.State) {
			t.Fatalf("%s: state %v, inputs %v: %v, want %v: %v, optimized %v", name, state, in, got, want, c, x)
		}
	}
}

// checkOptimized requires of a valid circuit all that the specification says of its optimized one.
func checkOptimized(t *testing.T, name string, c impl.Circuit) {
	t.Helper()
	x := impl.Optimize(c)
	checkSameBehaviour(t, name, c, x)
	checkNotLarger(t, name, c, x)
	checkNormalForm(t, name, x)
	if want := modelOptimize(c); !sameCircuit(x, want) {
		t.Fatalf("%s: %v, optimized %v, want %v", name, c, x, want)
	}
}

// fullNormal is at all four limits and in normal form.
func fullNormal() impl.Circuit {
	before := impl.MaxInputs + impl.MaxLatches
	c := impl.Circuit{Inputs: impl.MaxInputs}
	for i := range impl.MaxGates {
		c.Gates = append(c.Gates, impl.Gate{A: 2*(1+i%(before-1)) + i%2, B: 2*(before+i) + i%3%2})
	}
	last := 2 * (before + impl.MaxGates)
	c.Next = []int{last - 3, 1, 2*impl.MaxInputs + 3}
	c.Outs = []int{last, last + 1, 0}
	return c
}

type optimizedCase struct {
	name string
	c    impl.Circuit
	want impl.Circuit
}

// oneGate has two inputs, so that its gate is variable 3, and shows the gate and its complement.
func oneGate(a int, b int) impl.Circuit {
	return impl.Circuit{Inputs: 2, Gates: []impl.Gate{{A: a, B: b}}, Outs: []int{6, 7}}
}

// noGate is what is left of oneGate if the gate is replaced by lit.
func noGate(lit int) impl.Circuit {
	return impl.Circuit{Inputs: 2, Outs: []int{lit, lit ^ 1}}
}

// singleGates are circuits of one gate.
func singleGates() []optimizedCase {
	return []optimizedCase{
		{"conjunction with false", oneGate(2, 0), noGate(0)},
		{"conjunction of false", oneGate(0, 2), noGate(0)},
		{"complement with false", oneGate(3, 0), noGate(0)},
		{"conjunction with true", oneGate(2, 1), noGate(2)},
		{"conjunction of true", oneGate(1, 2), noGate(2)},
		{"complement with true", oneGate(5, 1), noGate(5)},
		{"true and complement", oneGate(1, 5), noGate(5)},
		{"false and false", oneGate(0, 0), noGate(0)},
		{"false and true", oneGate(0, 1), noGate(0)},
		{"true and false", oneGate(1, 0), noGate(0)},
		{"true and true", oneGate(1, 1), noGate(1)},
		{"equal operands", oneGate(4, 4), noGate(4)},
		{"equal complemented operands", oneGate(5, 5), noGate(5)},
		{"complementary operands", oneGate(4, 5), noGate(0)},
		{"complementary operands, the larger first", oneGate(5, 4), noGate(0)},
		{"neighbouring literals that are no complements", oneGate(3, 4), oneGate(3, 4)},
		{"ordered operands", oneGate(2, 4), oneGate(2, 4)},
		{"operands to be ordered", oneGate(4, 2), oneGate(2, 4)},
		{"complemented operands to be ordered", oneGate(5, 3), oneGate(3, 5)},
		{"one complemented operand", oneGate(4, 3), oneGate(3, 4)},
	}
}

// withTwoInputs is a circuit without latches: its gates have the literals 6, 8, 10 and so on.
func withTwoInputs(outs []int, gates ...impl.Gate) impl.Circuit {
	return impl.Circuit{Inputs: 2, Gates: gates, Outs: outs}
}

// replacedChains are circuits whose gates can be replaced only after others.
func replacedChains() []optimizedCase {
	and := impl.Gate{A: 2, B: 4}
	return []optimizedCase{
		{"false after a replacement", withTwoInputs([]int{8}, impl.Gate{A: 2, B: 3}, impl.Gate{A: 4, B: 6}), withTwoInputs([]int{0})},
		{"true after a replacement", withTwoInputs([]int{8}, impl.Gate{A: 2, B: 3}, impl.Gate{A: 4, B: 7}), withTwoInputs([]int{4})},
		{"equal after a replacement", withTwoInputs([]int{8}, impl.Gate{A: 2, B: 1}, impl.Gate{A: 6, B: 2}), withTwoInputs([]int{2})},
		{"complementary after a replacement", withTwoInputs([]int{8}, impl.Gate{A: 2, B: 1}, impl.Gate{A: 7, B: 2}), withTwoInputs([]int{0})},
		{"complementary after hashing", withTwoInputs([]int{10}, and, impl.Gate{A: 4, B: 2}, impl.Gate{A: 6, B: 9}), withTwoInputs([]int{0})},
		{"equal after hashing", withTwoInputs([]int{11}, and, impl.Gate{A: 4, B: 2}, impl.Gate{A: 7, B: 9}), withTwoInputs([]int{6}, and)},
		{"the same after a replacement", withTwoInputs([]int{8, 10}, impl.Gate{A: 2, B: 2}, and, impl.Gate{A: 6, B: 4}), withTwoInputs([]int{6, 6}, and)},
		{"operands that change their order", withTwoInputs([]int{10}, and, impl.Gate{A: 1, B: 3}, impl.Gate{A: 6, B: 8}), withTwoInputs([]int{8}, and, impl.Gate{A: 3, B: 6})},
		{"complement of a replaced complement", withTwoInputs([]int{9, 8}, impl.Gate{A: 3, B: 1}, impl.Gate{A: 7, B: 7}), withTwoInputs([]int{3, 2})},
		{"chain of equal operands", chain(), impl.Circuit{Inputs: 1, Outs: []int{2}}},
		{"chain of gates with true", withTwoInputs([]int{13}, and, impl.Gate{A: 6, B: 1}, impl.Gate{A: 1, B: 8}, impl.Gate{A: 10, B: 10}), withTwoInputs([]int{7}, and)},
		{"chain of same gates", withTwoInputs([]int{12}, and, impl.Gate{A: 6, B: 3}, and, impl.Gate{A: 3, B: 10}), withTwoInputs([]int{8}, and, impl.Gate{A: 3, B: 6})},
	}
}

// removedGates are circuits some of whose gates are not reached, at once or in the end.
func removedGates() []optimizedCase {
	and, nor := impl.Gate{A: 2, B: 4}, impl.Gate{A: 3, B: 5}
	return []optimizedCase{
		{"nothing is reached", withTwoInputs([]int{2}, and, nor), withTwoInputs([]int{2})},
		{"no outputs", withTwoInputs(nil, and, nor), withTwoInputs(nil)},
		{"the first gate is not reached", withTwoInputs([]int{8}, and, nor), withTwoInputs([]int{6}, nor)},
		{"the last gate is not reached", withTwoInputs([]int{7}, and, nor), withTwoInputs([]int{7}, and)},
		{"used only by a gate that is not reached", withTwoInputs([]int{8}, and, nor, impl.Gate{A: 6, B: 8}), withTwoInputs([]int{6}, nor)},
		// Were it removed only in the end, it would take the place of the last gate.
		{"not reached, but the same as a later gate", withTwoInputs([]int{8, 10}, and, nor, and), withTwoInputs([]int{6, 8}, nor, and)},
		{"unused after a replacement by false", withTwoInputs([]int{8}, and, impl.Gate{A: 6, B: 0}), withTwoInputs([]int{0})},
		{"unused after complements", withTwoInputs([]int{8}, and, impl.Gate{A: 6, B: 7}), withTwoInputs([]int{0})},
		{"unused one after the other", withTwoInputs([]int{12, 10}, and, impl.Gate{A: 3, B: 6}, nor, impl.Gate{A: 8, B: 9}), withTwoInputs([]int{0, 6}, nor)},
		{"unused between gates that stay", withTwoInputs([]int{12, 15}, and, impl.Gate{A: 2, B: 5}, nor, impl.Gate{A: 7, B: 11}, impl.Gate{A: 8, B: 0}), withTwoInputs([]int{10, 1}, and, nor, impl.Gate{A: 7, B: 9})},
		// It is reached when the gates are rebuilt, so it keeps its place although its first user is replaced.
		{"no longer used by the first user", withTwoInputs([]int{8, 10, 12}, and, impl.Gate{A: 6, B: 0}, nor, and), withTwoInputs([]int{0, 8, 6}, and, nor)},
	}
}

// withLatches are circuits whose gates are reached from next states too.
func withLatches() []optimizedCase {
	swapped := counter()
	swapped.Gates = []impl.Gate{{A: 4, B: 2}, {A: 5, B: 3}, {A: 9, B: 7}}
	return []optimizedCase{
		{"counter", counter(), counter()},
		{"counter with exchanged operands", swapped, counter()},
		{"reached from a next state only", impl.Circuit{Inputs: 1, Next: []int{7}, Gates: []impl.Gate{{A: 4, B: 2}}}, impl.Circuit{Inputs: 1, Next: []int{7}, Gates: []impl.Gate{{A: 2, B: 4}}}},
		{"next state of a replaced gate", impl.Circuit{Inputs: 1, Next: []int{7}, Gates: []impl.Gate{{A: 2, B: 2}}}, impl.Circuit{Inputs: 1, Next: []int{3}}},
		{"complement of a latch and itself", impl.Circuit{Next: []int{5}, Gates: []impl.Gate{{A: 3, B: 2}}, Outs: []int{4}}, impl.Circuit{Next: []int{1}, Outs: []int{0}}},
		{"literals of variable 0", impl.Circuit{Next: []int{0, 1}, Outs: []int{1, 0, 1}}, impl.Circuit{Next: []int{0, 1}, Outs: []int{1, 0, 1}}},
		{"latches that nothing uses stay", impl.Circuit{Inputs: 1, Next: []int{4, 7, 3}}, impl.Circuit{Inputs: 1, Next: []int{4, 7, 3}}},
		{"gates for both", impl.Circuit{Inputs: 1, Next: []int{9, 6}, Gates: []impl.Gate{{A: 6, B: 4}, {A: 4, B: 6}, {A: 8, B: 11}}, Outs: []int{12, 13, 11}}, impl.Circuit{Inputs: 1, Next: []int{9, 6}, Gates: []impl.Gate{{A: 4, B: 6}}, Outs: []int{0, 1, 9}}},
	}
}

// atTheEdges are the circuit without anything and circuits at the limits.
func atTheEdges() []optimizedCase {
	most := impl.Circuit{Gates: make([]impl.Gate, impl.MaxGates), Outs: []int{2 * impl.MaxGates, 2*impl.MaxGates + 1}}
	unused := fullNormal()
	unused.Next, unused.Outs = []int{2, 5, 0}, []int{1, 3, 14}
	kept := copyOf(unused)
	kept.Gates = nil
	return []optimizedCase{
		{"nil slices", impl.Circuit{}, impl.Circuit{}},
		{"empty slices", impl.Circuit{Next: []int{}, Gates: []impl.Gate{}, Outs: []int{}}, impl.Circuit{}},
		{"most inputs", impl.Circuit{Inputs: impl.MaxInputs}, impl.Circuit{Inputs: impl.MaxInputs}},
		{"most latches", impl.Circuit{Next: []int{3, 2, 7}}, impl.Circuit{Next: []int{3, 2, 7}}},
		{"most gates", most, impl.Circuit{Outs: []int{0, 1}}},
		{"most outputs", impl.Circuit{Inputs: 1, Outs: []int{2, 3, 2}}, impl.Circuit{Inputs: 1, Outs: []int{2, 3, 2}}},
		{"all limits, every gate stays", fullNormal(), fullNormal()},
		{"all limits, no gate is reached", unused, kept},
		{"all limits, one gate of constants", full(), impl.Circuit{Inputs: impl.MaxInputs, Next: []int{0, 0, 1}, Outs: []int{0, 0, 0}}},
	}
}

func optimizedCases() []optimizedCase {
	return slices.Concat(singleGates(), replacedChains(), removedGates(), withLatches(), atTheEdges())
}

// Promises 40 and 41: the results are written out, so that this test does not depend on a model.
func TestOptimizedCircuits(t *testing.T) {
	for _, k := range optimizedCases() {
		if !impl.CircuitValid(k.c) {
			t.Errorf("%s: not valid: %v", k.name, k.c)
		}
		if got := impl.Optimize(k.c); !sameCircuit(got, k.want) {
			t.Errorf("%s: %v, optimized %v, want %v", k.name, k.c, got, k.want)
		}
	}
}

// Promises 40 and 41.
func TestPropertiesOfOptimizedCircuits(t *testing.T) {
	for _, k := range optimizedCases() {
		checkOptimized(t, k.name, k.c)
	}
	for _, k := range simulated() {
		checkOptimized(t, k.name, k.c)
	}
}

// Promises 40 and 41.
func TestAllSmallCircuitsOptimized(t *testing.T) {
	for c := range smallCircuits {
		if impl.CircuitValid(c) {
			checkOptimized(t, "small circuit", c)
		} else if x := impl.Optimize(c); !reflect.DeepEqual(x, impl.Circuit{}) {
			t.Fatalf("invalid: %v, optimized %v", c, x)
		}
	}
}

// pairsBelow returns all gates whose operands are literals below bound.
func pairsBelow(bound int) []impl.Gate {
	gates := []impl.Gate{}
	for a := range bound {
		for b := range bound {
			gates = append(gates, impl.Gate{A: a, B: b})
		}
	}
	return gates
}

// threeGates yields every circuit of one input, one latch and three gates whose output is the last gate; the next state changes from circuit to circuit.
func threeGates(yield func(impl.Circuit) bool) {
	next := 0
	for _, first := range pairsBelow(6) {
		for _, second := range pairsBelow(8) {
			for _, third := range pairsBelow(10) {
				next = (next + 7) % 12
				c := impl.Circuit{Inputs: 1, Next: []int{next}, Gates: []impl.Gate{first, second, third}, Outs: []int{11}}
				if !yield(c) {
					return
				}
			}
		}
	}
}

// Promises 40 and 41.
func TestAllCircuitsOfThreeGatesOptimized(t *testing.T) {
	for c := range threeGates {
		checkOptimized(t, "three gates", c)
	}
}

// mixed makes a valid circuit from a number; a small spread makes equal and complementary operands frequent.
func mixed(seed int) impl.Circuit {
	x := uint32(seed)*2654435761 + 1
	pick := func(n int) int {
		x = x*1664525 + 1013904223
		return int(x>>8) % n
	}
	c := impl.Circuit{Inputs: pick(impl.MaxInputs + 1)}
	latches, gates := pick(impl.MaxLatches+1), pick(impl.MaxGates+1)
	count := 1 + c.Inputs + latches
	spread := 2 + pick(12)
	for range gates {
		low := max(0, 2*count-spread*(1+pick(2)))
		c.Gates = append(c.Gates, impl.Gate{A: low + pick(2*count-low), B: low + pick(2*count-low)})
		count++
	}
	for range latches {
		c.Next = append(c.Next, pick(2*count))
	}
	for range pick(impl.MaxOutputs + 1) {
		c.Outs = append(c.Outs, 2*count-1-pick(min(6, 2*count)))
	}
	return c
}

// Promises 40 and 41.
func TestMixedCircuitsOptimized(t *testing.T) {
	kept, removed := 0, 0
	for seed := range 4000 {
		c := mixed(seed)
		if !impl.CircuitValid(c) {
			t.Fatalf("circuit %d is not valid: %v", seed, c)
		}
		checkOptimized(t, "mixed circuit", c)
		x := impl.Optimize(c)
		kept += len(x.Gates)
		removed += len(c.Gates) - len(x.Gates)
		rows := rowsFor(c, 8)
		if got, want := impl.Simulate(x, rows), impl.Simulate(c, rows); !sameRows(got, want) {
			t.Fatalf("circuit %d: outputs %v, want %v: %v, optimized %v", seed, got, want, c, x)
		}
	}
	// Circuits that lose all of their gates, or none, would test little.
	if kept < 4000 || removed < 4000 {
		t.Errorf("%d gates kept, %d removed", kept, removed)
	}
}

// checkNotOptimized requires the result for an invalid circuit.
func checkNotOptimized(t *testing.T, name string, c impl.Circuit) {
	t.Helper()
	x := impl.Optimize(c)
	if x.Inputs != 0 || len(x.Next) != 0 || len(x.Gates) != 0 || len(x.Outs) != 0 {
		t.Errorf("%s: %v, optimized %v", name, c, x)
	}
}

func TestInvalidCircuitsAreNotOptimized(t *testing.T) {
	checkNotOptimized(t, "inputs", impl.Circuit{Inputs: impl.MaxInputs + 1, Outs: []int{2}})
	checkNotOptimized(t, "latches", impl.Circuit{Inputs: 1, Next: make([]int, impl.MaxLatches+1)})
	checkNotOptimized(t, "outputs", impl.Circuit{Inputs: 1, Outs: make([]int, impl.MaxOutputs+1)})
	// None of the gates would be left, but the limit holds for the argument.
	checkNotOptimized(t, "gates", impl.Circuit{Inputs: 1, Gates: make([]impl.Gate, impl.MaxGates+1), Outs: []int{2}})
	for _, n := range []int{-1, -2, math.MinInt, math.MaxInt, 1 << 32, 1<<32 + 1} {
		checkNotOptimized(t, "number of inputs", impl.Circuit{Inputs: n, Next: []int{0}, Outs: []int{0}})
		checkNotOptimized(t, "number of inputs, nothing else", impl.Circuit{Inputs: n})
	}
	for _, lit := range []int{-1, -2, -3, math.MinInt, 6, 7, 8, 9, 10, 128, 1 << 32, math.MaxInt} {
		for _, k := range placements(lit) {
			checkNotOptimized(t, k.place, k.c)
		}
	}
	self := counter()
	self.Gates[1].A = 8
	checkNotOptimized(t, "gate that refers to itself", self)
	// Nothing reaches the wrong gate, but the circuit is invalid all the same.
	checkNotOptimized(t, "gate that would be removed", impl.Circuit{Inputs: 1, Gates: []impl.Gate{{A: 4, B: 2}}, Outs: []int{2}})
}

// roomy returns c with spare capacity behind each of its slices, in which every number is -7.
func roomy(c impl.Circuit) impl.Circuit {
	spare := []int{-7, -7, -7}
	c.Next = slices.Concat(c.Next, spare)[:len(c.Next)]
	c.Outs = slices.Concat(c.Outs, spare)[:len(c.Outs)]
	c.Gates = slices.Concat(c.Gates, []impl.Gate{{A: -7, B: -7}, {A: -7, B: -7}})[:len(c.Gates)]
	return c
}

// checkUnwritten requires that c is roomy(original), spare capacity included.
func checkUnwritten(t *testing.T, name string, c impl.Circuit, original impl.Circuit) {
	t.Helper()
	if !sameCircuit(c, original) {
		t.Errorf("%s: changed: %v, before %v", name, c, original)
	}
	spare := slices.Concat(c.Next[len(c.Next):len(c.Next)+3], c.Outs[len(c.Outs):len(c.Outs)+3])
	for _, g := range c.Gates[len(c.Gates) : len(c.Gates)+2] {
		spare = append(spare, g.A, g.B)
	}
	if !slices.Equal(spare, slices.Repeat([]int{-7}, 10)) {
		t.Errorf("%s: spare capacity changed: %v", name, spare)
	}
}

// spoilNumbers changes all of a slice, including its spare capacity.
func spoilNumbers(lits []int) {
	lits = lits[:cap(lits)]
	for i := range lits {
		lits[i] = -100 - i
	}
}

func spoilGates(gates []impl.Gate) {
	gates = gates[:cap(gates)]
	for i := range gates {
		gates[i] = impl.Gate{A: -100 - i, B: -200 - i}
	}
}

// Spoiling a part of a result must change neither the argument nor another part nor another result.
func TestOptimizeSharesNoMemory(t *testing.T) {
	for _, k := range optimizedCases() {
		c := roomy(k.c)
		first, second := impl.Optimize(c), impl.Optimize(c)
		checkUnwritten(t, k.name, c, k.c)
		spoilNumbers(first.Next)
		if !slices.Equal(first.Gates, k.want.Gates) || !slices.Equal(first.Outs, k.want.Outs) {
			t.Errorf("%s: the next states share memory with another part", k.name)
		}
		spoilNumbers(first.Outs)
		if !slices.Equal(first.Gates, k.want.Gates) {
			t.Errorf("%s: the outputs share memory with the gates", k.name)
		}
		spoilGates(first.Gates)
		checkUnwritten(t, k.name, c, k.c)
		if !sameCircuit(second, k.want) || !sameCircuit(impl.Optimize(c), k.want) {
			t.Errorf("%s: two results share memory", k.name)
		}
	}
}

// A circuit whose next states and outputs are one slice is an ordinary argument.
func TestOptimizeOfSharedArguments(t *testing.T) {
	lits := []int{9, 6, 1}
	c := impl.Circuit{Next: lits, Gates: []impl.Gate{{A: 4, B: 2}}, Outs: lits}
	x := impl.Optimize(c)
	want := impl.Circuit{Next: []int{9, 6, 1}, Gates: []impl.Gate{{A: 2, B: 4}}, Outs: []int{9, 6, 1}}
	if !sameCircuit(x, want) {
		t.Errorf("%v, want %v", x, want)
	}
	spoilNumbers(x.Next)
	if !slices.Equal(x.Outs, want.Outs) || !slices.Equal(lits, want.Next) {
		t.Errorf("outputs %v, argument %v", x.Outs, lits)
	}
}
