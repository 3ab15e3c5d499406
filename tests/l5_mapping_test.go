package tests

import (
	"math/bits"
	"reflect"
	"slices"
	"testing"

	"loop.example/fpgatoolchain/impl"
)

// sameCuts takes a nil and an empty cut as the same value.
func sameCuts(a [][][]int, b [][][]int) bool {
	return slices.EqualFunc(a, b, func(x [][]int, y [][]int) bool {
		return slices.EqualFunc(x, y, slices.Equal[[]int])
	})
}

func sameLut(a impl.Lut, b impl.Lut) bool {
	return a.Var == b.Var && slices.Equal(a.Leaves, b.Leaves) && a.Table == b.Table
}

func sameLuts(a []impl.Lut, b []impl.Lut) bool {
	return slices.EqualFunc(a, b, sameLut)
}

// modelCuts takes a cut as a set of bits, one per variable, and limits the unions only after all of them are there.
func modelCuts(c impl.Circuit) [][]uint {
	cuts := [][]uint{{0}}
	for v := 1; v <= c.Inputs+len(c.Next); v++ {
		cuts = append(cuts, []uint{1 << v})
	}
	for _, g := range c.Gates {
		unions := []uint{}
		for _, x := range cuts[g.A/2] {
			for _, y := range cuts[g.B/2] {
				if bits.OnesCount(x|y) <= impl.LutInputs && !slices.Contains(unions, x|y) {
					unions = append(unions, x|y)
				}
			}
		}
		unions = unions[:min(len(unions), impl.MaxCuts)]
		cuts = append(cuts, append(unions, 1<<len(cuts)))
	}
	return cuts
}

// membersOf returns the variables of a set of bits, in ascending order.
func membersOf(set uint) []int {
	members := []int{}
	for v := range bits.UintSize {
		if set>>v&1 == 1 {
			members = append(members, v)
		}
	}
	return members
}

func modelCutLists(c impl.Circuit) [][][]int {
	lists := [][][]int{}
	for _, sets := range modelCuts(c) {
		list := [][]int{}
		for _, set := range sets {
			list = append(list, membersOf(set))
		}
		lists = append(lists, list)
	}
	return lists
}

// modelBest returns the best cut of every gate, and the arrival times of all variables.
func modelBest(c impl.Circuit) ([][]int, []int) {
	best, arrivals := [][]int{}, []int{}
	for v, cuts := range modelCutLists(c) {
		if v <= c.Inputs+len(c.Next) {
			best, arrivals = append(best, nil), append(arrivals, 0)
			continue
		}
		chosen, latest := []int{}, -1
		for _, cut := range cuts[:len(cuts)-1] {
			arrival := 0
			for _, leaf := range cut {
				arrival = max(arrival, arrivals[leaf])
			}
			if latest < 0 || arrival < latest || arrival == latest && len(cut) < len(chosen) {
				chosen, latest = cut, arrival
			}
		}
		best, arrivals = append(best, chosen), append(arrivals, 1+latest)
	}
	return best, arrivals
}

// modelFromLeaves follows the definition of a table entry from a literal down to the leaves.
func modelFromLeaves(c impl.Circuit, leaves []int, x int, lit int) bool {
	if lit%2 == 1 {
		return !modelFromLeaves(c, leaves, x, lit-1)
	}
	if k := slices.Index(leaves, lit/2); k >= 0 {
		return x>>k&1 == 1
	}
	if lit == 0 {
		return false
	}
	g := c.Gates[lit/2-1-c.Inputs-len(c.Next)]
	return modelFromLeaves(c, leaves, x, g.A) && modelFromLeaves(c, leaves, x, g.B)
}

func modelTable(c impl.Circuit, v int, leaves []int) int {
	table := 0
	for x := range 1 << len(leaves) {
		if modelFromLeaves(c, leaves, x, 2*v) {
			table += 1 << x
		}
	}
	return table
}

func modelNeed(c impl.Circuit, best [][]int, v int, needed map[int]bool) {
	if v > c.Inputs+len(c.Next) && !needed[v] {
		needed[v] = true
		for _, leaf := range best[v] {
			modelNeed(c, best, leaf, needed)
		}
	}
}

// modelLuts returns the lookup tables of a valid circuit, and its mapped depth.
func modelLuts(c impl.Circuit) ([]impl.Lut, int) {
	best, arrivals := modelBest(c)
	needed, depth := map[int]bool{}, 0
	for _, lit := range slices.Concat(c.Next, c.Outs) {
		modelNeed(c, best, lit/2, needed)
		depth = max(depth, arrivals[lit/2])
	}
	luts := []impl.Lut{}
	for v, leaves := range best {
		if needed[v] {
			luts = append(luts, impl.Lut{Var: v, Leaves: leaves, Table: modelTable(c, v, leaves)})
		}
	}
	return luts, depth
}

// valuesForAll returns the values of all variables for every assignment.
func valuesForAll(c impl.Circuit) [][]bool {
	all := [][]bool{}
	for x := range 1 << (c.Inputs + len(c.Next)) {
		all = append(all, impl.EvalVars(c, bitsOf(x>>c.Inputs, len(c.Next)), bitsOf(x, c.Inputs)))
	}
	return all
}

// selected returns the number of the table entry that the leaves select.
func selected(leaves []int, values []bool) int {
	x := 0
	for k, leaf := range leaves {
		if values[leaf] {
			x += 1 << k
		}
	}
	return x
}

// ascendingBelow reports whether the leaves are ascending variables before v, few enough for a lookup table.
func ascendingBelow(leaves []int, v int) bool {
	for k, leaf := range leaves {
		if leaf < 0 || leaf >= v || k > 0 && leaf <= leaves[k-1] {
			return false
		}
	}
	return len(leaves) <= impl.LutInputs
}

// determines reports whether the leaves never have the same values while v has another one.
func determines(all [][]bool, leaves []int, v int) bool {
	var seen [1 << impl.LutInputs][2]bool
	for _, values := range all {
		bit := 0
		if values[v] {
			bit = 1
		}
		seen[selected(leaves, values)][bit] = true
	}
	return !slices.Contains(seen[:], [2]bool{true, true})
}

// Promise 46.
func checkCuts(t *testing.T, name string, c impl.Circuit) {
	t.Helper()
	cuts, all := impl.Cuts(c), valuesForAll(c)
	if len(cuts) != impl.VarCount(c) || len(cuts[0]) != 1 || len(cuts[0][0]) != 0 {
		t.Fatalf("%s: cuts %v of %v", name, cuts, c)
	}
	for v := 1; v < len(cuts); v++ {
		last := len(cuts[v]) - 1
		if last < 0 || last > impl.MaxCuts || !slices.Equal(cuts[v][last], []int{v}) {
			t.Fatalf("%s: cuts %v of variable %d: %v", name, cuts[v], v, c)
		}
		for _, leaves := range cuts[v][:last] {
			if !ascendingBelow(leaves, v) || !determines(all, leaves, v) {
				t.Fatalf("%s: cut %v of variable %d: %v", name, leaves, v, c)
			}
		}
	}
	if want := modelCutLists(c); !sameCuts(cuts, want) {
		t.Fatalf("%s: cuts %v, want %v: %v", name, cuts, want, c)
	}
}

// Promise 2.
func checkLuts(t *testing.T, name string, c impl.Circuit) {
	t.Helper()
	luts, before := impl.MapLuts(c), c.Inputs+len(c.Next)
	has, last := map[int]bool{}, before
	for v := range before + 1 {
		has[v] = true
	}
	for _, l := range luts {
		if l.Var <= last || !ascendingBelow(l.Leaves, l.Var) || l.Table < 0 || l.Table >= 1<<(1<<len(l.Leaves)) {
			t.Fatalf("%s: lookup tables %v of %v", name, luts, c)
		}
		for _, leaf := range l.Leaves {
			if !has[leaf] {
				t.Fatalf("%s: nothing computes leaf %d: lookup tables %v of %v", name, leaf, luts, c)
			}
		}
		has[l.Var], last = true, l.Var
		for _, values := range valuesForAll(c) {
			if values[l.Var] != (l.Table>>selected(l.Leaves, values)&1 == 1) {
				t.Fatalf("%s: variable %d is %t: lookup tables %v of %v", name, l.Var, values[l.Var], luts, c)
			}
		}
	}
	for _, lit := range slices.Concat(c.Next, c.Outs) {
		if !has[lit/2] {
			t.Fatalf("%s: no lookup table for literal %d: %v of %v", name, lit, luts, c)
		}
	}
	if want, _ := modelLuts(c); !sameLuts(luts, want) {
		t.Fatalf("%s: lookup tables %v, want %v: %v", name, luts, want, c)
	}
}

// Promise 47.
func checkMappedDepth(t *testing.T, name string, c impl.Circuit) {
	t.Helper()
	lengths, longest := map[int]int{}, 0
	for _, l := range impl.MapLuts(c) {
		for _, leaf := range l.Leaves {
			lengths[l.Var] = max(lengths[l.Var], lengths[leaf])
		}
		lengths[l.Var]++
	}
	for _, lit := range slices.Concat(c.Next, c.Outs) {
		longest = max(longest, lengths[lit/2])
	}
	got := impl.MappedDepth(c)
	if got != longest {
		t.Fatalf("%s: mapped depth %d, the longest chain has %d: %v", name, got, longest, c)
	}
	if got > impl.Depth(c) {
		t.Fatalf("%s: mapped depth %d, depth %d: %v", name, got, impl.Depth(c), c)
	}
	if _, want := modelLuts(c); got != want {
		t.Fatalf("%s: mapped depth %d, want %d: %v", name, got, want, c)
	}
}

// checkMapped requires of a valid circuit all that the specification says of its mapping.
func checkMapped(t *testing.T, name string, c impl.Circuit) {
	t.Helper()
	checkCuts(t, name, c)
	checkLuts(t, name, c)
	checkMappedDepth(t, name, c)
}

// cutCase lists the cuts of the gates of a circuit.
type cutCase struct {
	name string
	c    impl.Circuit
	want [][][]int
}

// operandCuts are circuits of few gates, one for every kind of operands.
func operandCuts() []cutCase {
	gate := func(a int, b int) impl.Circuit { return withTwoInputs(nil, impl.Gate{A: a, B: b}) }
	one, both := [][][]int{{{1}, {3}}}, [][][]int{{{1, 2}, {3}}}
	none := [][][]int{{{}, {3}}}
	latches := impl.Circuit{Inputs: 1, Next: []int{0, 0}, Gates: []impl.Gate{{A: 6, B: 5}, {A: 9, B: 2}}}
	return []cutCase{
		{"two inputs", gate(2, 4), both},
		{"two inputs, the larger first", gate(4, 2), both},
		{"complemented inputs", gate(5, 3), both},
		{"equal operands", gate(2, 2), one},
		{"equal complemented operands", gate(3, 3), one},
		{"complementary operands", gate(3, 2), one},
		{"an input and false", gate(2, 0), one},
		{"false and an input", gate(0, 2), one},
		{"an input and true", gate(3, 1), one},
		{"true and an input", gate(1, 2), one},
		{"false and true", gate(0, 1), none},
		{"true and true", gate(1, 1), none},
		{"latches", latches, [][][]int{{{2, 3}, {4}}, {{1, 2, 3}, {1, 4}, {5}}}},
		{"a gate and an input of its own", withTwoInputs(nil, impl.Gate{A: 2, B: 4}, impl.Gate{A: 6, B: 2}), [][][]int{{{1, 2}, {3}}, {{1, 2}, {1, 3}, {4}}}},
		{"equal gates", withTwoInputs(nil, impl.Gate{A: 2, B: 4}, impl.Gate{A: 6, B: 6}), [][][]int{{{1, 2}, {3}}, {{1, 2}, {1, 2, 3}, {3}, {4}}}},
		{"complementary gates", withTwoInputs(nil, impl.Gate{A: 2, B: 4}, impl.Gate{A: 7, B: 6}), [][][]int{{{1, 2}, {3}}, {{1, 2}, {1, 2, 3}, {3}, {4}}}},
		{"a gate and true", withTwoInputs(nil, impl.Gate{A: 2, B: 4}, impl.Gate{A: 1, B: 6}), [][][]int{{{1, 2}, {3}}, {{1, 2}, {3}, {4}}}},
		{"a gate of constants and an input", withTwoInputs(nil, impl.Gate{A: 1, B: 0}, impl.Gate{A: 6, B: 4}), [][][]int{{{}, {3}}, {{2}, {2, 3}, {4}}}},
		{"a gate of constants, twice", withTwoInputs(nil, impl.Gate{A: 1, B: 1}, impl.Gate{A: 7, B: 6}), [][][]int{{{}, {3}}, {{}, {3}, {4}}}},
	}
}

// manyUnions is a circuit whose last gate has nine unions without repetitions, one more than are kept.
func manyUnions() impl.Circuit {
	and := impl.Gate{A: 2, B: 4}
	return withTwoInputs([]int{16}, and, and, impl.Gate{A: 6, B: 8}, and, impl.Gate{A: 10, B: 12}, impl.Gate{A: 14, B: 6})
}

// limitedChoice is a circuit whose last gate would have a cut of two leaves if more than MaxCuts were kept.
func limitedChoice() impl.Circuit {
	gates := []impl.Gate{{A: 5, B: 5}, {A: 2, B: 9}, {A: 10, B: 13}, {A: 7, B: 10}, {A: 17, B: 15}, {A: 17, B: 19}}
	return impl.Circuit{Inputs: 3, Next: []int{20}, Gates: gates}
}

// orderedCuts are circuits in which the order of the cuts, or their number, matters.
func orderedCuts() []cutCase {
	first := [][][]int{{{1, 2}, {3}}, {{1, 2}, {4}}}
	backwards := counter()
	backwards.Gates[2] = impl.Gate{A: 9, B: 7}
	eight := impl.Circuit{Next: []int{0, 0}, Gates: []impl.Gate{{A: 5, B: 2}, {A: 5, B: 7}, {A: 9, B: 8}, {A: 11, B: 6}}}
	return []cutCase{
		{"counter", counter(), slices.Concat(first, [][][]int{{{1, 2}, {1, 2, 4}, {1, 2, 3}, {3, 4}, {5}}})},
		{"counter with exchanged operands", backwards, slices.Concat(first, [][][]int{{{1, 2}, {1, 2, 3}, {1, 2, 4}, {3, 4}, {5}}})},
		{"unions of four leaves", withInputs(4, nil, impl.Gate{A: 2, B: 4}, impl.Gate{A: 6, B: 8}, impl.Gate{A: 10, B: 12}), [][][]int{{{1, 2}, {5}}, {{3, 4}, {6}}, {{1, 2, 6}, {3, 4, 5}, {5, 6}, {7}}}},
		{"exactly as many unions as are kept", eight, [][][]int{
			{{1, 2}, {3}},
			{{1, 2}, {2, 3}, {4}},
			{{1, 2}, {1, 2, 3}, {1, 2, 4}, {2, 3}, {2, 3, 4}, {4}, {5}},
			{{1, 2}, {1, 2, 3}, {1, 2, 4}, {2, 3}, {2, 3, 4}, {3, 4}, {1, 2, 5}, {3, 5}, {6}},
		}},
		{"one union too many", manyUnions(), [][][]int{
			{{1, 2}, {3}},
			{{1, 2}, {4}},
			{{1, 2}, {1, 2, 4}, {1, 2, 3}, {3, 4}, {5}},
			{{1, 2}, {6}},
			{{1, 2}, {1, 2, 6}, {1, 2, 4}, {1, 2, 3}, {3, 4, 6}, {1, 2, 5}, {5, 6}, {7}},
			{{1, 2}, {1, 2, 3}, {1, 2, 6}, {1, 2, 4}, {3, 4, 6}, {1, 2, 5}, {3, 5, 6}, {1, 2, 7}, {8}},
		}},
		{"two unions too many", limitedChoice(), [][][]int{
			{{2}, {5}},
			{{1, 4}, {6}},
			{{1, 2, 4}, {2, 6}, {1, 4, 5}, {5, 6}, {7}},
			{{2, 3}, {3, 5}, {8}},
			{{2, 3, 6}, {2, 3, 7}, {3, 5, 6}, {3, 5, 7}, {2, 6, 8}, {5, 6, 8}, {7, 8}, {9}},
			{{2, 3, 6}, {2, 3, 7}, {2, 3, 9}, {3, 5, 6}, {3, 5, 7}, {3, 5, 9}, {2, 6, 8}, {5, 6, 8}, {10}},
		}},
	}
}

func cutCases() []cutCase {
	return slices.Concat(operandCuts(), orderedCuts())
}

// Promise 46: the cuts are written out, so that this test does not depend on a model.
func TestKnownCuts(t *testing.T) {
	for _, k := range cutCases() {
		want := [][][]int{{{}}}
		for v := 1; v <= k.c.Inputs+len(k.c.Next); v++ {
			want = append(want, [][]int{{v}})
		}
		want = append(want, k.want...)
		if got := impl.Cuts(k.c); !sameCuts(got, want) {
			t.Errorf("%s: %v, want %v: %v", k.name, got, want, k.c)
		}
	}
}

// Promise 46.
func TestCutsWithoutGates(t *testing.T) {
	for inputs := range impl.MaxInputs + 1 {
		for latches := range impl.MaxLatches + 1 {
			want := [][][]int{{{}}}
			for v := 1; v <= inputs+latches; v++ {
				want = append(want, [][]int{{v}})
			}
			if got := impl.Cuts(sized(inputs, latches, 0, 1, 1)); !sameCuts(got, want) {
				t.Errorf("%d inputs and %d latches: %v", inputs, latches, got)
			}
		}
	}
}

type mappedCase struct {
	name  string
	c     impl.Circuit
	luts  []impl.Lut
	depth int
}

// lutCase is a circuit that is mapped to these lookup tables.
func lutCase(name string, c impl.Circuit, depth int, luts ...impl.Lut) mappedCase {
	return mappedCase{name, c, luts, depth}
}

// mappedGates are circuits of one gate, variable 3.
func mappedGates() []mappedCase {
	gate := func(name string, a int, b int, table int, leaves ...int) mappedCase {
		return lutCase(name, oneGate(a, b), 1, impl.Lut{Var: 3, Leaves: leaves, Table: table})
	}
	return []mappedCase{
		gate("both", 2, 4, 8, 1, 2),
		gate("both, the larger first", 4, 2, 8, 1, 2),
		gate("not the first leaf", 3, 4, 4, 1, 2),
		gate("not the first leaf, the larger first", 4, 3, 4, 1, 2),
		gate("not the second leaf", 2, 5, 2, 1, 2),
		gate("neither", 3, 5, 1, 1, 2),
		gate("equal operands", 2, 2, 2, 1),
		gate("equal complemented operands", 5, 5, 1, 2),
		gate("complementary operands", 4, 5, 0, 2),
		gate("true and an input", 1, 2, 2, 1),
		gate("a complement and true", 3, 1, 1, 1),
		gate("an input and false", 4, 0, 0, 2),
		gate("false and a complement", 0, 5, 0, 2),
		gate("true and true", 1, 1, 1),
		gate("true and false", 1, 0, 0),
		gate("false and false", 0, 0, 0),
	}
}

// threeLeaves are circuits whose last gate, variable 5 of three inputs, covers the other one.
func threeLeaves() []mappedCase {
	all := []mappedCase{}
	for x := range 8 {
		// Complementing an operand where x has a 0 leaves x as the only entry that is true.
		lit := func(k int) int { return 2*(1+k) + 1 - x>>k&1 }
		left := withInputs(3, []int{10}, impl.Gate{A: lit(0), B: lit(1)}, impl.Gate{A: 8, B: lit(2)})
		right := withInputs(3, []int{11}, impl.Gate{A: lit(2), B: lit(1)}, impl.Gate{A: lit(0), B: 8})
		single := impl.Lut{Var: 5, Leaves: []int{1, 2, 3}, Table: 1 << x}
		all = append(all, lutCase("one entry", left, 1, single), lutCase("one entry, otherwise nested", right, 1, single))
	}
	return all
}

// coveredGates are circuits some of whose gates get no lookup table.
func coveredGates() []mappedCase {
	shown := counter()
	shown.Outs = []int{7, 4}
	unreached := withLastGate(withLastGate(counter(), impl.Gate{A: 2, B: 10}), impl.Gate{A: 12, B: 5})
	last := impl.Lut{Var: 5, Leaves: []int{1, 2}, Table: 6}
	and := impl.Gate{A: 2, B: 4}
	return []mappedCase{
		lutCase("counter", counter(), 1, last),
		lutCase("covered and the variable of an output", shown, 1, impl.Lut{Var: 3, Leaves: []int{1, 2}, Table: 8}, last),
		lutCase("covered and the variable of a next state", impl.Circuit{Inputs: 2, Next: []int{9}, Gates: []impl.Gate{and, {A: 8, B: 7}}, Outs: []int{10}}, 1, impl.Lut{Var: 4, Leaves: []int{1, 2}, Table: 8}, impl.Lut{Var: 5, Leaves: []int{1, 2, 3}, Table: 8}),
		lutCase("gates that nothing reaches", unreached, 1, last),
		lutCase("no outputs", withTwoInputs(nil, and, impl.Gate{A: 6, B: 3}), 0),
		lutCase("a gate of constants is covered", withTwoInputs([]int{8}, impl.Gate{A: 1, B: 1}, impl.Gate{A: 6, B: 5}), 1, impl.Lut{Var: 4, Leaves: []int{2}, Table: 1}),
		lutCase("gates of constants", withTwoInputs([]int{9}, impl.Gate{A: 1, B: 1}, impl.Gate{A: 6, B: 7}), 1, impl.Lut{Var: 4}),
		lutCase("a chain of equal operands", chain(), 1, impl.Lut{Var: 15, Leaves: []int{1}, Table: 2}),
		lutCase("an output twice", withTwoInputs([]int{6, 7, 6}, and), 1, impl.Lut{Var: 3, Leaves: []int{1, 2}, Table: 8}),
		lutCase("reached from two others", withInputs(4, []int{14, 17}, and, impl.Gate{A: 10, B: 6}, impl.Gate{A: 12, B: 8}, impl.Gate{A: 13, B: 9}), 2,
			impl.Lut{Var: 6, Leaves: []int{1, 2, 3}, Table: 128}, impl.Lut{Var: 7, Leaves: []int{4, 6}, Table: 8}, impl.Lut{Var: 8, Leaves: []int{4, 6}, Table: 1}),
	}
}

// chosenCuts are circuits in which the choice among cuts matters.
func chosenCuts() []mappedCase {
	pairs := []impl.Gate{{A: 2, B: 4}, {A: 6, B: 8}, {A: 10, B: 12}}
	and := func(v int, leaves ...int) impl.Lut {
		return impl.Lut{Var: v, Leaves: leaves, Table: 1 << (1<<len(leaves) - 1)}
	}
	// The cuts of the last gate are {1,2,7}, {3,4,5}, {5,7}, {3,4,6}, {6,7} and itself; all leaves that are gates arrive at 1.
	alias := []impl.Gate{{A: 2, B: 4}, {A: 10, B: 10}, {A: 6, B: 8}, {A: 12, B: 14}}
	return []mappedCase{
		lutCase("the smallest number of leaves", withInputs(4, []int{14}, pairs...), 2, and(5, 1, 2), and(6, 3, 4), and(7, 5, 6)),
		// The cuts of the last gate are {1,2,6}, {1,5,6}, {1,7} and itself.
		lutCase("the first of two cuts of three leaves, which arrive before two", withInputs(4, []int{16}, append(pairs, impl.Gate{A: 15, B: 2})...), 2, and(6, 3, 4), impl.Lut{Var: 8, Leaves: []int{1, 2, 6}, Table: 42}),
		lutCase("the first of two cuts of two leaves", withInputs(4, []int{17}, alias...), 2, and(5, 1, 2), and(7, 3, 4), and(8, 5, 7)),
		lutCase("among the cuts that are kept", limitedChoice(), 2, impl.Lut{Var: 6, Leaves: []int{1, 4}, Table: 2}, impl.Lut{Var: 10, Leaves: []int{2, 3, 6}, Table: 4}),
		lutCase("a leaf more for an earlier arrival", withInputs(3, []int{10}, impl.Gate{A: 2, B: 4}, impl.Gate{A: 8, B: 6}), 1, and(5, 1, 2, 3)),
	}
}

// dependentLeaves are circuits with a lookup table whose leaves cannot have all values together.
func dependentLeaves() []mappedCase {
	// Leaf 6 is false whenever leaf 1 is, so the only entry that is true is never selected.
	never := withInputs(4, []int{16}, impl.Gate{A: 2, B: 4}, impl.Gate{A: 10, B: 6}, impl.Gate{A: 12, B: 8}, impl.Gate{A: 14, B: 3})
	// The last gate is (not 13 and 11), and 11 is (4 and not 10). Leaf 13 is (10 and not 10), but in the table it has a value of its own.
	between := impl.Circuit{Inputs: 2, Next: []int{30, 0}, Gates: []impl.Gate{
		{A: 5, B: 2}, {A: 5, B: 7}, {A: 6, B: 7}, {A: 12, B: 15}, {A: 11, B: 17}, {A: 16, B: 19},
		{A: 8, B: 21}, {A: 10, B: 16}, {A: 20, B: 21}, {A: 17, B: 13}, {A: 27, B: 22},
	}}
	return []mappedCase{
		lutCase("a leaf that implies another one", never, 2, impl.Lut{Var: 6, Leaves: []int{1, 2, 3}, Table: 128}, impl.Lut{Var: 8, Leaves: []int{1, 4, 6}, Table: 64}),
		lutCase("a leaf between other leaves and the variable", between, 2, impl.Lut{Var: 10, Leaves: []int{1, 2, 3}, Table: 3}, impl.Lut{Var: 13, Leaves: []int{1, 2, 3}}, impl.Lut{Var: 15, Leaves: []int{4, 10, 13}, Table: 2}),
	}
}

// mappedWithoutLuts are circuits whose outputs and next states are no gates.
func mappedWithoutLuts() []mappedCase {
	gates := []impl.Gate{{A: 2, B: 4}, {A: 6, B: 3}}
	return []mappedCase{
		lutCase("nil slices", impl.Circuit{}, 0),
		lutCase("empty slices", impl.Circuit{Next: []int{}, Gates: []impl.Gate{}, Outs: []int{}}, 0),
		lutCase("constants as outputs", impl.Circuit{Outs: []int{0, 1, 0}}, 0),
		lutCase("constants as next states", impl.Circuit{Next: []int{1, 0, 1}}, 0),
		lutCase("inputs", withTwoInputs([]int{2, 5}, gates...), 0),
		lutCase("latches", impl.Circuit{Next: []int{5, 2}, Gates: gates, Outs: []int{4, 3}}, 0),
		lutCase("shift register", impl.Circuit{Inputs: 1, Next: []int{2, 4, 6}, Outs: []int{8}}, 0),
		lutCase("only gates", impl.Circuit{Gates: make([]impl.Gate, impl.MaxGates)}, 0),
		lutCase("most inputs", impl.Circuit{Inputs: impl.MaxInputs, Outs: []int{2 * impl.MaxInputs}}, 0),
		lutCase("most latches", impl.Circuit{Next: []int{3, 2, 2 * impl.MaxLatches}}, 0),
		lutCase("most outputs", impl.Circuit{Inputs: 1, Outs: []int{2, 3, 1}}, 0),
	}
}

// mappedAtLimits are circuits in which some number, or all of them, is as large as it may be and that have lookup tables.
func mappedAtLimits() []mappedCase {
	most := impl.Circuit{Gates: make([]impl.Gate, impl.MaxGates), Outs: []int{2 * impl.MaxGates, 2*impl.MaxGates - 1}}
	// Every gate reads the one before it and one of the same two inputs, so that the last one covers all the others.
	pair := withTwoInputs([]int{2*(2+impl.MaxGates) + 1}, impl.Gate{A: 2, B: 4})
	for v := 3; v < 2+impl.MaxGates; v++ {
		pair.Gates = append(pair.Gates, impl.Gate{A: 2*v + 1, B: 2 + v%2*2})
	}
	return []mappedCase{
		lutCase("most gates, no operand is an input", most, 1, impl.Lut{Var: impl.MaxGates - 1}, impl.Lut{Var: impl.MaxGates}),
		lutCase("most gates, one lookup table", pair, 1, impl.Lut{Var: 16, Leaves: []int{1, 2}, Table: 4}),
		lutCase("all limits", full(), 1, impl.Lut{Var: impl.MaxInputs + impl.MaxLatches + impl.MaxGates}),
	}
}

func mappedCases() []mappedCase {
	return slices.Concat(mappedGates(), threeLeaves(), coveredGates(), chosenCuts(), dependentLeaves(), mappedWithoutLuts(), mappedAtLimits())
}

// Promises 2 and 47: the lookup tables are written out, so that this test does not depend on a model.
func TestKnownLuts(t *testing.T) {
	for _, k := range mappedCases() {
		if !impl.CircuitValid(k.c) {
			t.Errorf("%s: not valid: %v", k.name, k.c)
		}
		if got := impl.MapLuts(k.c); !sameLuts(got, k.luts) {
			t.Errorf("%s: %v, want %v: %v", k.name, got, k.luts, k.c)
		}
		if got := impl.MappedDepth(k.c); got != k.depth {
			t.Errorf("%s: mapped depth %d, want %d: %v", k.name, got, k.depth, k.c)
		}
	}
}

// Promise 47: the deepest literal counts, wherever it stands.
func TestMappedDepthOfLiterals(t *testing.T) {
	// The best cut of variable 9 is {5,6,7}, so that it is no deeper than 8; that of 10 is {1,9}.
	c := impl.Circuit{Inputs: 3, Gates: []impl.Gate{{A: 2, B: 4}, {A: 6, B: 8}, {A: 12, B: 15}, {A: 16, B: 10}, {A: 18, B: 2}}}
	check := func(next []int, outs []int, want int) {
		t.Helper()
		c.Next, c.Outs = next, outs
		if got := impl.MappedDepth(c); got != want {
			t.Errorf("next states %v and outputs %v: mapped depth %d, want %d", next, outs, got, want)
		}
		checkMapped(t, "depths", c)
	}
	for v, want := range []int{0, 0, 0, 0, 0, 0, 1, 1, 2, 2, 3} {
		for _, lit := range []int{2 * v, 2*v + 1} {
			check([]int{0, 0}, []int{lit}, want)
			check([]int{1, 2}, []int{8, lit, 11}, want)
			check([]int{lit, 0}, nil, want)
			check([]int{0, lit}, []int{3, 1}, want)
			check([]int{lit, 17}, []int{12, 0, 15}, max(want, 2))
			check([]int{12, 15}, []int{0, 19, lit}, max(want, 2))
		}
	}
}

// mappedCircuits returns all valid circuits that some test names.
func mappedCircuits() []namedCircuit {
	all := namedCircuits()
	for _, k := range cutCases() {
		all = append(all, namedCircuit{k.name, k.c})
	}
	for _, k := range mappedCases() {
		all = append(all, namedCircuit{k.name, k.c})
	}
	return all
}

// Promises 2, 46 and 47.
func TestMappingOfNamedCircuits(t *testing.T) {
	for _, k := range mappedCircuits() {
		checkMapped(t, k.name, k.c)
	}
}

// Promises 2, 46 and 47.
func TestMappingOfSmallCircuits(t *testing.T) {
	for c := range smallCircuits {
		if impl.CircuitValid(c) {
			checkMapped(t, "small circuit", c)
		} else {
			checkNotMapped(t, "small circuit", c)
		}
		if t.Failed() {
			return
		}
	}
}

// Promises 2, 46 and 47.
func TestMappingOfAllCircuitsOfThreeGates(t *testing.T) {
	for c := range threeGates {
		checkMapped(t, "three gates", c)
	}
}

// crowded makes a valid circuit from a number; every gate reads one shortly before it and, at first, an input or latch that none has read yet, so that there are many cuts and long chains of lookup tables.
func crowded(seed int) impl.Circuit {
	x := uint32(seed)*2246822519 + 3
	pick := func(n int) int {
		x = x*1664525 + 1013904223
		return int(x>>8) % n
	}
	c := impl.Circuit{Inputs: 2 + pick(impl.MaxInputs-1), Next: make([]int, pick(impl.MaxLatches+1))}
	before := c.Inputs + len(c.Next)
	for i := range impl.MaxGates {
		count := 1 + before + i
		near, far := count-1-pick(min(3, count-1)), 1+i
		if i >= before || pick(3) == 0 {
			far = count - 1 - pick(min(6, count))
		}
		c.Gates = append(c.Gates, impl.Gate{A: 2*near + pick(2), B: 2*far + pick(2)})
	}
	last := 2*(before+impl.MaxGates) + 1
	for i := range c.Next {
		c.Next[i] = last - pick(8)
	}
	c.Outs = []int{last - pick(2), last - pick(12)}
	return c
}

// Promises 2, 46 and 47 for circuits up to the limits.
func TestMappingOfMixedCircuits(t *testing.T) {
	limited, covered := 0, 0
	depths := map[int]int{}
	for seed := range 6000 {
		c := mixed(seed)
		if seed%2 == 0 {
			c = crowded(seed)
		}
		if !impl.CircuitValid(c) {
			t.Fatalf("circuit %d is not valid: %v", seed, c)
		}
		checkMapped(t, "mixed circuit", c)
		for _, cuts := range impl.Cuts(c) {
			if len(cuts) > impl.MaxCuts {
				limited++
			}
		}
		reached := map[int]bool{}
		for _, lit := range slices.Concat(c.Next, c.Outs) {
			modelReach(c, lit, reached)
		}
		covered += len(reached) - len(impl.MapLuts(c))
		depths[impl.MappedDepth(c)]++
	}
	// Circuits that leave no choice would test little.
	if limited < 4000 || covered < 4000 || depths[2] < 400 || depths[3] < 200 || depths[4] < 20 {
		t.Errorf("%d gates with as many cuts as are kept, %d covered gates, numbers of circuits by their mapped depths %v", limited, covered, depths)
	}
}

func TestMappingLimits(t *testing.T) {
	if impl.LutInputs != 3 || impl.MaxCuts != 8 {
		t.Errorf("LutInputs is %d, MaxCuts is %d", impl.LutInputs, impl.MaxCuts)
	}
}

// checkNotMapped requires what all three functions return for an invalid circuit.
func checkNotMapped(t *testing.T, name string, c impl.Circuit) {
	t.Helper()
	if got := impl.Cuts(c); len(got) != 0 {
		t.Errorf("%s: cuts %v of %v", name, got, c)
	}
	if got := impl.MapLuts(c); len(got) != 0 {
		t.Errorf("%s: lookup tables %v of %v", name, got, c)
	}
	if got := impl.MappedDepth(c); got != -1 {
		t.Errorf("%s: mapped depth %d of %v", name, got, c)
	}
}

func TestInvalidCircuitsAreNotMapped(t *testing.T) {
	for _, k := range invalidCircuits() {
		checkNotMapped(t, k.name, k.c)
	}
}

func TestMappingDoesNotWriteItsArguments(t *testing.T) {
	for _, k := range mappedCircuits() {
		c := roomy(k.c)
		impl.Cuts(c)
		impl.MapLuts(c)
		impl.MappedDepth(c)
		checkUnwritten(t, k.name, c, k.c)
	}
	for _, k := range invalidCircuits() {
		before := copyOf(k.c)
		impl.Cuts(k.c)
		impl.MapLuts(k.c)
		impl.MappedDepth(k.c)
		if !reflect.DeepEqual(k.c, before) {
			t.Errorf("%s: changed: %v, before %v", k.name, k.c, before)
		}
	}
}

// spoilLists replaces every element of a slice, including its spare capacity.
func spoilLists[T any](lists []T, by T) {
	lists = lists[:cap(lists)]
	for i := range lists {
		lists[i] = by
	}
}

// Spoiling one cut, or the cuts of one variable, must change neither another one nor another result.
func TestCutsShareNoMemory(t *testing.T) {
	for _, k := range cutCases() {
		c := roomy(k.c)
		want := modelCutLists(k.c)
		first, second := impl.Cuts(c), impl.Cuts(c)
		for v := range first {
			for i := range first[v] {
				spoilNumbers(first[v][i])
				first[v][i] = want[v][i]
				if !sameCuts(first, want) {
					t.Fatalf("%s: cut %d of variable %d shares memory with another one", k.name, i, v)
				}
			}
			spoilLists(first[v], []int{-100})
			first[v] = want[v]
			if !sameCuts(first, want) {
				t.Fatalf("%s: the cuts of variable %d share memory with those of another one", k.name, v)
			}
		}
		spoilLists(first, nil)
		if !sameCuts(second, want) || !sameCuts(impl.Cuts(c), want) {
			t.Errorf("%s: two results share memory", k.name)
		}
		checkUnwritten(t, k.name, c, k.c)
	}
}

// Spoiling the leaves of one lookup table must change neither another one nor another result.
func TestLutsShareNoMemory(t *testing.T) {
	for _, k := range mappedCases() {
		c := roomy(k.c)
		first, second := impl.MapLuts(c), impl.MapLuts(c)
		for i := range first {
			spoilNumbers(first[i].Leaves)
			first[i].Leaves = k.luts[i].Leaves
			if !sameLuts(first, k.luts) {
				t.Fatalf("%s: the leaves of lookup table %d share memory with those of another one", k.name, i)
			}
		}
		spoilLists(first, impl.Lut{Var: -100, Leaves: []int{-100}, Table: -100})
		if !sameLuts(second, k.luts) || !sameLuts(impl.MapLuts(c), k.luts) {
			t.Errorf("%s: two results share memory", k.name)
		}
		checkUnwritten(t, k.name, c, k.c)
	}
}

// A circuit whose next states and outputs are one slice is an ordinary argument.
func TestMappingOfSharedArguments(t *testing.T) {
	lits := []int{9, 6, 1}
	c := impl.Circuit{Next: lits, Gates: []impl.Gate{{A: 4, B: 2}}, Outs: lits}
	if got := impl.MapLuts(c); !sameLuts(got, []impl.Lut{{Var: 4, Leaves: []int{1, 2}, Table: 8}}) {
		t.Errorf("%v", got)
	}
	if !slices.Equal(lits, []int{9, 6, 1}) {
		t.Errorf("argument %v", lits)
	}
}

// Every mapping starts anew: an earlier one leaves no state behind.
func TestMappingKeepsNoState(t *testing.T) {
	for range 3 {
		for _, k := range mappedCases() {
			if got := impl.MapLuts(k.c); !sameLuts(got, k.luts) || impl.MappedDepth(k.c) != k.depth {
				t.Fatalf("%s: %v", k.name, got)
			}
		}
	}
}
