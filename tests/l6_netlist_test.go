package tests

import (
	"math"
	"reflect"
	"slices"
	"testing"

	"loop.example/fpgatoolchain/impl"
)

// sameCell takes nil and empty inputs as the same value.
func sameCell(a impl.Cell, b impl.Cell) bool {
	return a.Net == b.Net && slices.Equal(a.Inputs, b.Inputs) && a.Table == b.Table && a.Register == b.Register
}

func sameCells(a []impl.Cell, b []impl.Cell) bool {
	return slices.EqualFunc(a, b, sameCell)
}

func registerCell(net int, table int, inputs ...int) impl.Cell {
	return impl.Cell{Net: net, Inputs: inputs, Table: table, Register: true}
}

func lutCell(net int, table int, inputs ...int) impl.Cell {
	return impl.Cell{Net: net, Inputs: inputs, Table: table}
}

// modelRegister finds the table of a next-state literal by its value for each value of its variable.
func modelRegister(net int, lit int) impl.Cell {
	inputs, values := []int{lit / 2}, []int{0, 1}
	if lit/2 == 0 {
		inputs, values = nil, []int{0}
	}
	table := 0
	for x, value := range values {
		table += (value + lit) % 2 << x
	}
	return registerCell(net, table, inputs...)
}

func modelCells(c impl.Circuit) []impl.Cell {
	cells := []impl.Cell{}
	for i, lit := range c.Next {
		cells = append(cells, modelRegister(1+c.Inputs+i, lit))
	}
	luts, _ := modelLuts(c)
	for _, l := range luts {
		cells = append(cells, lutCell(l.Var, l.Table, l.Leaves...))
	}
	return cells
}

// modelSinks returns, for every net that is an input of some cell, these cells.
func modelSinks(cells []impl.Cell) map[int][]int {
	sinks := map[int][]int{}
	for i, cell := range cells {
		for _, net := range cell.Inputs {
			sinks[net] = append(sinks[net], i)
		}
	}
	return sinks
}

// entry returns the table entry that the inputs of a cell select.
func entry(cell impl.Cell, values []bool) bool {
	return cell.Table>>selected(cell.Inputs, values)&1 == 1
}

// checkShape requires inputs in ascending order and a table without entries that no values of the inputs select.
func checkShape(t *testing.T, name string, cell impl.Cell, count int) {
	t.Helper()
	if !ascendingBelow(cell.Inputs, count) || cell.Table < 0 || cell.Table >= 1<<(1<<len(cell.Inputs)) {
		t.Fatalf("%s: cell %v", name, cell)
	}
}

// checkRegisters requires that the first cells drive the latch nets, in order, and compute their next-state functions.
func checkRegisters(t *testing.T, name string, c impl.Circuit, cells []impl.Cell) {
	t.Helper()
	if len(cells) < len(c.Next) {
		t.Fatalf("%s: cells %v of %v", name, cells, c)
	}
	for i, lit := range c.Next {
		cell := cells[i]
		want := []int{lit / 2}
		if lit/2 == 0 {
			want = nil
		}
		if !cell.Register || cell.Net != 1+c.Inputs+i || !slices.Equal(cell.Inputs, want) {
			t.Fatalf("%s: cell %d is %v, cells %v of %v", name, i, cell, cells, c)
		}
	}
	for x := range 1 << (c.Inputs + len(c.Next)) {
		state, in := bitsOf(x>>c.Inputs, len(c.Next)), bitsOf(x, c.Inputs)
		values, next := impl.EvalVars(c, state, in), impl.Step(c, state, in).State
		for i, want := range next {
			if entry(cells[i], values) != want {
				t.Fatalf("%s: state %v, inputs %v: cell %d is %v, the next state %v: %v", name, state, in, i, cells[i], next, c)
			}
		}
	}
}

// checkLutCells requires that the cells behind the registers are the lookup tables, in order, and compute their variables.
func checkLutCells(t *testing.T, name string, c impl.Circuit, cells []impl.Cell) {
	t.Helper()
	luts := impl.MapLuts(c)
	if len(cells) != len(luts) {
		t.Fatalf("%s: %d cells for the lookup tables %v: %v of %v", name, len(cells), luts, cells, c)
	}
	all := valuesForAll(c)
	for i, cell := range cells {
		if !sameCell(cell, lutCell(luts[i].Var, luts[i].Table, luts[i].Leaves...)) {
			t.Fatalf("%s: cell %v for the lookup table %v: %v", name, cell, luts[i], c)
		}
		for _, values := range all {
			if entry(cell, values) != values[cell.Net] {
				t.Fatalf("%s: values %v, cell %v: %v", name, values, cell, c)
			}
		}
	}
}

// checkDrivers requires that no net is driven twice, by cells or inputs, and that every net that a cell, an output or a next state uses is driven.
func checkDrivers(t *testing.T, name string, c impl.Circuit, cells []impl.Cell) {
	t.Helper()
	driven := map[int]bool{}
	for net := range 1 + c.Inputs {
		driven[net] = true
	}
	used := []int{}
	for _, lit := range slices.Concat(c.Next, c.Outs) {
		used = append(used, lit/2)
	}
	for _, cell := range cells {
		if driven[cell.Net] {
			t.Fatalf("%s: net %d is driven twice: cells %v of %v", name, cell.Net, cells, c)
		}
		driven[cell.Net] = true
		used = append(used, cell.Inputs...)
	}
	for _, net := range used {
		if !driven[net] {
			t.Fatalf("%s: nothing drives net %d: cells %v of %v", name, net, cells, c)
		}
	}
}

// checkRun computes all clock cycles from the cells alone, and requires the outputs and the state of the circuit.
func checkRun(t *testing.T, name string, c impl.Circuit, cells []impl.Cell) {
	t.Helper()
	for x := range 1 << (c.Inputs + len(c.Next)) {
		state, in := bitsOf(x>>c.Inputs, len(c.Next)), bitsOf(x, c.Inputs)
		nets := make([]bool, impl.VarCount(c))
		copy(nets[1:], slices.Concat(in, state))
		for _, cell := range cells {
			if !cell.Register {
				nets[cell.Net] = entry(cell, nets)
			}
		}
		outs, next := []bool{}, []bool{}
		for _, lit := range c.Outs {
			outs = append(outs, nets[lit/2] != (lit%2 == 1))
		}
		for _, cell := range cells {
			if cell.Register {
				next = append(next, entry(cell, nets))
			}
		}
		want := impl.Step(c, state, in)
		if !slices.Equal(outs, want.Outs) || !slices.Equal(next, want.State) {
			t.Fatalf("%s: state %v, inputs %v: outputs %v and next state %v, want %v: cells %v of %v", name, state, in, outs, next, want, cells, c)
		}
	}
}

// Promise 48.
func checkCells(t *testing.T, name string, c impl.Circuit) {
	t.Helper()
	cells := impl.Cells(c)
	for _, cell := range cells {
		checkShape(t, name, cell, impl.VarCount(c))
	}
	checkRegisters(t, name, c, cells)
	checkLutCells(t, name, c, cells[len(c.Next):])
	checkDrivers(t, name, c, cells)
	checkRun(t, name, c, cells)
	if want := modelCells(c); !sameCells(cells, want) {
		t.Fatalf("%s: cells %v, want %v: %v", name, cells, want, c)
	}
}

// farNets are no variables of any circuit; some become variables, or the constant, if they are cut off or their sign is lost.
func farNets() []int {
	return []int{-1, -2, -3, -64, math.MinInt, math.MinInt + 1, math.MinInt32, math.MaxInt, math.MaxInt - 1, math.MaxInt32, 63, 64, 65, 128, 256, 257, 1 << 31, 1 << 32, 1<<32 + 1, -1 << 32, 1 - 1<<32}
}

// nearNets returns constant false, all variables of a valid circuit, and the numbers next to them.
func nearNets(c impl.Circuit) []int {
	nets := []int{}
	for net := -1; net <= impl.VarCount(c)+1; net++ {
		nets = append(nets, net)
	}
	return nets
}

// netsAround returns constant false, all variables of a valid circuit, their literals, and many numbers that are no variables.
func netsAround(c impl.Circuit) []int {
	nets := farNets()
	for net := range 2*impl.VarCount(c) + 3 {
		nets = append(nets, net)
	}
	return nets
}

// Promise 49.
func checkSinks(t *testing.T, name string, c impl.Circuit, nets []int) {
	t.Helper()
	cells := impl.Cells(c)
	want := modelSinks(modelCells(c))
	for _, net := range nets {
		got := impl.NetSinks(c, net)
		for k, i := range got {
			if i < 0 || i >= len(cells) || k > 0 && i <= got[k-1] {
				t.Fatalf("%s: sinks %v of net %d: cells %v of %v", name, got, net, cells, c)
			}
		}
		for i, cell := range cells {
			if slices.Contains(got, i) != slices.Contains(cell.Inputs, net) {
				t.Fatalf("%s: sinks %v of net %d: cell %d is %v: %v", name, got, net, i, cell, c)
			}
		}
		if len(got) > 0 && (net <= 0 || net >= impl.VarCount(c)) {
			t.Fatalf("%s: sinks %v of net %d: %v", name, got, net, c)
		}
		if !slices.Equal(got, want[net]) {
			t.Fatalf("%s: sinks %v of net %d, want %v: %v", name, got, net, want[net], c)
		}
	}
}

// checkNetlist requires of a valid circuit all that the specification says of its netlist.
func checkNetlist(t *testing.T, name string, c impl.Circuit) {
	t.Helper()
	checkCells(t, name, c)
	checkSinks(t, name, c, nearNets(c))
}

// netCase is a circuit with these cells and, for every net that a cell uses, these sinks.
type netCase struct {
	name  string
	c     impl.Circuit
	cells []impl.Cell
	sinks map[int][]int
}

// nextLiterals are circuits of two inputs, two latches and one gate, in which one literal is a next state.
func nextLiterals() []netCase {
	and := lutCell(5, 8, 1, 2)
	all := []netCase{}
	add := func(name string, lit int, table int, inputs ...int) {
		c := impl.Circuit{Inputs: 2, Next: []int{lit, 0}, Gates: []impl.Gate{{A: 2, B: 4}}, Outs: []int{0}}
		k := netCase{name, c, []impl.Cell{registerCell(3, table, inputs...), registerCell(4, 0)}, map[int][]int{}}
		if len(inputs) > 0 {
			k.sinks[inputs[0]] = []int{0}
		}
		if slices.Equal(inputs, []int{5}) {
			k.cells = append(k.cells, and)
			k.sinks[1], k.sinks[2] = []int{2}, []int{2}
		}
		all = append(all, k)
	}
	add("constant false", 0, 0)
	add("constant true", 1, 1)
	add("an input", 2, 2, 1)
	add("an input inverted", 3, 1, 1)
	add("another input", 4, 2, 2)
	add("another input inverted", 5, 1, 2)
	add("the latch itself", 6, 2, 3)
	add("the latch itself inverted", 7, 1, 3)
	add("another latch", 8, 2, 4)
	add("another latch inverted", 9, 1, 4)
	add("a gate", 10, 2, 5)
	add("a gate inverted", 11, 1, 5)
	return all
}

// severalLatches are circuits in which the next states of latches are equal, complementary, or out of order.
func severalLatches() []netCase {
	and := []impl.Gate{{A: 2, B: 4}}
	ordered := impl.Circuit{Inputs: 1, Next: []int{12, 10, 3}, Gates: []impl.Gate{{A: 2, B: 4}, {A: 3, B: 6}}, Outs: []int{7}}
	return []netCase{
		{"the same gate three times", impl.Circuit{Inputs: 1, Next: []int{10, 10, 10}, Gates: and},
			[]impl.Cell{registerCell(2, 2, 5), registerCell(3, 2, 5), registerCell(4, 2, 5), lutCell(5, 8, 1, 2)},
			map[int][]int{1: {3}, 2: {3}, 5: {0, 1, 2}}},
		{"a gate and its complement", impl.Circuit{Inputs: 1, Next: []int{11, 10, 11}, Gates: and},
			[]impl.Cell{registerCell(2, 1, 5), registerCell(3, 2, 5), registerCell(4, 1, 5), lutCell(5, 8, 1, 2)},
			map[int][]int{1: {3}, 2: {3}, 5: {0, 1, 2}}},
		{"the same input", impl.Circuit{Inputs: 2, Next: []int{4, 4, 5}},
			[]impl.Cell{registerCell(3, 2, 2), registerCell(4, 2, 2), registerCell(5, 1, 2)},
			map[int][]int{2: {0, 1, 2}}},
		{"the same latch", impl.Circuit{Next: []int{5, 4, 4}},
			[]impl.Cell{registerCell(1, 1, 2), registerCell(2, 2, 2), registerCell(3, 2, 2)},
			map[int][]int{2: {0, 1, 2}}},
		{"constants", impl.Circuit{Inputs: 1, Next: []int{1, 0, 1}, Outs: []int{4}},
			[]impl.Cell{registerCell(2, 1), registerCell(3, 0), registerCell(4, 1)}, nil},
		{"shift register", impl.Circuit{Inputs: 1, Next: []int{2, 4, 6}, Outs: []int{8}},
			[]impl.Cell{registerCell(2, 2, 1), registerCell(3, 2, 2), registerCell(4, 2, 3)},
			map[int][]int{1: {0}, 2: {1}, 3: {2}}},
		{"shift register backwards", impl.Circuit{Inputs: 1, Next: []int{7, 9, 3}, Outs: []int{4}},
			[]impl.Cell{registerCell(2, 1, 3), registerCell(3, 1, 4), registerCell(4, 1, 1)},
			map[int][]int{1: {2}, 3: {0}, 4: {1}}},
		{"the gates in the opposite order", ordered,
			[]impl.Cell{registerCell(2, 2, 6), registerCell(3, 2, 5), registerCell(4, 1, 1), lutCell(5, 8, 1, 2), lutCell(6, 4, 1, 3)},
			map[int][]int{1: {2, 3, 4}, 2: {3}, 3: {4}, 5: {1}, 6: {0}}},
	}
}

// cellsOfGates are circuits that differ in which of their gates have a cell.
func cellsOfGates() []netCase {
	count := []impl.Cell{registerCell(2, 2, 5), lutCell(5, 6, 1, 2)}
	uses := map[int][]int{1: {1}, 2: {1}, 5: {0}}
	shown := counter()
	shown.Next, shown.Outs = []int{7}, []int{11}
	unreached := withLastGate(withLastGate(counter(), impl.Gate{A: 2, B: 10}), impl.Gate{A: 12, B: 5})
	tree := withInputs(4, []int{14, 15, 10}, impl.Gate{A: 2, B: 4}, impl.Gate{A: 7, B: 8}, impl.Gate{A: 11, B: 13})
	constant := func(next int, a int, b int) impl.Circuit {
		return impl.Circuit{Inputs: 1, Next: []int{next}, Gates: []impl.Gate{{A: a, B: b}}}
	}
	return []netCase{
		{"counter", counter(), count, uses},
		{"gates that nothing reaches", unreached, count, uses},
		{"covered and the variable of a next state", shown,
			[]impl.Cell{registerCell(2, 1, 3), lutCell(3, 8, 1, 2), lutCell(5, 6, 1, 2)}, map[int][]int{1: {1, 2}, 2: {1, 2}, 3: {0}}},
		{"covered by a gate that reads the latch", impl.Circuit{Inputs: 2, Next: []int{8}, Gates: []impl.Gate{{A: 2, B: 4}, {A: 8, B: 7}}, Outs: []int{10}},
			[]impl.Cell{registerCell(3, 2, 4), lutCell(4, 8, 1, 2), lutCell(5, 8, 1, 2, 3)}, map[int][]int{1: {1, 2}, 2: {1, 2}, 3: {2}, 4: {0}}},
		{"tree without latches", tree,
			[]impl.Cell{lutCell(5, 8, 1, 2), lutCell(6, 4, 3, 4), lutCell(7, 1, 5, 6)}, map[int][]int{1: {0}, 2: {0}, 3: {1}, 4: {1}, 5: {2}, 6: {2}}},
		{"the same gate for cells and a latch", impl.Circuit{Inputs: 3, Next: []int{13}, Gates: []impl.Gate{{A: 2, B: 4}, {A: 10, B: 6}, {A: 12, B: 8}, {A: 13, B: 9}}, Outs: []int{14, 17}},
			[]impl.Cell{registerCell(4, 1, 6), lutCell(6, 128, 1, 2, 3), lutCell(7, 8, 4, 6), lutCell(8, 1, 4, 6)}, map[int][]int{1: {1}, 2: {1}, 3: {1}, 4: {2, 3}, 6: {0, 2, 3}}},
		{"only the output of a gate is used", withTwoInputs([]int{7, 6}, impl.Gate{A: 5, B: 2}),
			[]impl.Cell{lutCell(3, 2, 1, 2)}, map[int][]int{1: {0}, 2: {0}}},
		// A gate that is constant is a variable of its own: the latch reads it.
		{"a gate that is always false", constant(6, 0, 2), []impl.Cell{registerCell(2, 2, 3), lutCell(3, 0, 1)}, map[int][]int{1: {1}, 3: {0}}},
		{"a gate that is always false, inverted", constant(7, 5, 4), []impl.Cell{registerCell(2, 1, 3), lutCell(3, 0, 2)}, map[int][]int{2: {1}, 3: {0}}},
		{"a gate of constants", constant(6, 1, 1), []impl.Cell{registerCell(2, 2, 3), lutCell(3, 1)}, map[int][]int{3: {0}}},
		{"a gate of constants, inverted", constant(7, 1, 0), []impl.Cell{registerCell(2, 1, 3), lutCell(3, 0)}, map[int][]int{3: {0}}},
	}
}

// sparseNetlists are circuits that lack something.
func sparseNetlists() []netCase {
	gates := []impl.Gate{{A: 2, B: 4}, {A: 6, B: 3}}
	return []netCase{
		{"nil slices", impl.Circuit{}, nil, nil},
		{"empty slices", impl.Circuit{Next: []int{}, Gates: []impl.Gate{}, Outs: []int{}}, nil, nil},
		{"only inputs", impl.Circuit{Inputs: 2}, nil, nil},
		{"only latches", impl.Circuit{Next: []int{2, 3}}, []impl.Cell{registerCell(1, 2, 1), registerCell(2, 1, 1)}, map[int][]int{1: {0, 1}}},
		{"only gates", impl.Circuit{Gates: []impl.Gate{{A: 1, B: 1}, {A: 2, B: 2}}}, nil, nil},
		{"only outputs", impl.Circuit{Outs: []int{0, 1, 0}}, nil, nil},
		{"inputs as outputs", withTwoInputs([]int{2, 5}, gates...), nil, nil},
		{"no inputs", impl.Circuit{Next: []int{6, 1}, Gates: []impl.Gate{{A: 2, B: 5}}, Outs: []int{2}},
			[]impl.Cell{registerCell(1, 2, 3), registerCell(2, 1), lutCell(3, 2, 1, 2)}, map[int][]int{1: {2}, 2: {2}, 3: {0}}},
		{"no inputs and no latches", impl.Circuit{Gates: []impl.Gate{{A: 1, B: 1}}, Outs: []int{2}}, []impl.Cell{lutCell(1, 1)}, nil},
		{"no latches", withTwoInputs([]int{9}, gates...), []impl.Cell{lutCell(4, 0, 1, 2)}, map[int][]int{1: {0}, 2: {0}}},
		{"no gates", impl.Circuit{Inputs: 1, Next: []int{3}, Outs: []int{4, 2}}, []impl.Cell{registerCell(2, 1, 1)}, map[int][]int{1: {0}}},
		{"no outputs", impl.Circuit{Inputs: 2, Next: []int{8}, Gates: []impl.Gate{{A: 2, B: 4}}},
			[]impl.Cell{registerCell(3, 2, 4), lutCell(4, 8, 1, 2)}, map[int][]int{1: {1}, 2: {1}, 4: {0}}},
	}
}

// mostCells has as many latches and gates as there may be and a cell for each of them: no gate covers another one, as the operands of its operands are at least four variables.
func mostCells() impl.Circuit {
	return impl.Circuit{Inputs: 4, Next: []int{40, 42, 33}, Gates: []impl.Gate{
		{A: 2, B: 4}, {A: 6, B: 8}, {A: 10, B: 12}, {A: 14, B: 2},
		{A: 2, B: 6}, {A: 4, B: 10}, {A: 8, B: 12}, {A: 10, B: 14},
		{A: 16, B: 18}, {A: 20, B: 22}, {A: 24, B: 26}, {A: 28, B: 30},
		{A: 32, B: 34}, {A: 36, B: 38},
	}, Outs: []int{40, 43, 33}}
}

// netlistsAtLimits are circuits in which some number, or all of them, is as large as it may be.
func netlistsAtLimits() []netCase {
	pairs := [][2]int{{1, 2}, {3, 4}, {5, 6}, {1, 7}, {1, 3}, {2, 5}, {4, 6}, {5, 7}, {8, 9}, {10, 11}, {12, 13}, {14, 15}, {16, 17}, {18, 19}}
	most := []impl.Cell{registerCell(5, 2, 20), registerCell(6, 2, 21), registerCell(7, 1, 16)}
	for i, pair := range pairs {
		most = append(most, lutCell(8+i, 8, pair[0], pair[1]))
	}
	unused := impl.Circuit{Gates: make([]impl.Gate, impl.MaxGates), Next: []int{2 * (1 + impl.MaxGates)}}
	return []netCase{
		{"most inputs", impl.Circuit{Inputs: impl.MaxInputs, Next: []int{9, 8}, Outs: []int{8}},
			[]impl.Cell{registerCell(5, 1, 4), registerCell(6, 2, 4)}, map[int][]int{4: {0, 1}}},
		{"most latches", impl.Circuit{Next: []int{3, 2, 7}},
			[]impl.Cell{registerCell(1, 1, 1), registerCell(2, 2, 1), registerCell(3, 1, 3)}, map[int][]int{1: {0, 1}, 3: {2}}},
		{"most gates", unused, []impl.Cell{registerCell(1, 2, 15), lutCell(15, 0)}, map[int][]int{15: {0}}},
		{"most gates, one cell", chain(), []impl.Cell{lutCell(15, 2, 1)}, map[int][]int{1: {0}}},
		{"most outputs", impl.Circuit{Inputs: 1, Gates: []impl.Gate{{A: 3, B: 3}}, Outs: []int{4, 5, 4}}, []impl.Cell{lutCell(2, 1, 1)}, map[int][]int{1: {0}}},
		{"all limits", full(), []impl.Cell{registerCell(5, 0), registerCell(6, 0), registerCell(7, 1, 21), lutCell(21, 0)}, map[int][]int{21: {2}}},
		{"most cells", mostCells(), most, map[int][]int{
			1: {3, 6, 7}, 2: {3, 8}, 3: {4, 7}, 4: {4, 9}, 5: {5, 8, 10}, 6: {5, 9}, 7: {6, 10},
			8: {11}, 9: {11}, 10: {12}, 11: {12}, 12: {13}, 13: {13}, 14: {14}, 15: {14},
			16: {2, 15}, 17: {15}, 18: {16}, 19: {16}, 20: {0}, 21: {1},
		}},
	}
}

func netCases() []netCase {
	return slices.Concat(nextLiterals(), severalLatches(), cellsOfGates(), sparseNetlists(), netlistsAtLimits())
}

// Promise 48: the cells are written out, so that this test does not depend on a model.
func TestKnownCells(t *testing.T) {
	for _, k := range netCases() {
		if !impl.CircuitValid(k.c) {
			t.Errorf("%s: not valid: %v", k.name, k.c)
		}
		if got := impl.Cells(k.c); !sameCells(got, k.cells) {
			t.Errorf("%s: %v, want %v: %v", k.name, got, k.cells, k.c)
		}
	}
}

// Promise 49: the sinks are written out; all nets that are not named have none.
func TestKnownSinks(t *testing.T) {
	for _, k := range netCases() {
		for _, net := range netsAround(k.c) {
			if got := impl.NetSinks(k.c, net); !slices.Equal(got, k.sinks[net]) {
				t.Errorf("%s: net %d: %v, want %v: %v", k.name, net, got, k.sinks[net], k.c)
			}
		}
	}
}

// Promise 48: a next-state literal gives the same cell whichever latch it belongs to, and whatever the other latches do.
func TestNextStatesOfEveryLatch(t *testing.T) {
	for place := range impl.MaxLatches {
		for lit := range 14 {
			for other := range 14 {
				c := impl.Circuit{Inputs: 2, Next: slices.Repeat([]int{other}, impl.MaxLatches), Gates: []impl.Gate{{A: 2, B: 11}}, Outs: []int{12}}
				c.Next[place] = lit
				cells := impl.Cells(c)
				for i, next := range c.Next {
					if i >= len(cells) || !sameCell(cells[i], modelRegister(3+i, next)) {
						t.Fatalf("next states %v: %v", c.Next, cells)
					}
				}
				if !sameCells(cells[impl.MaxLatches:], []impl.Cell{lutCell(6, 2, 1, 5)}) {
					t.Fatalf("next states %v: %v", c.Next, cells)
				}
				checkNetlist(t, "next states", c)
			}
		}
	}
}

// netCircuits returns all valid circuits that some test names.
func netCircuits() []namedCircuit {
	all := mappedCircuits()
	for _, k := range netCases() {
		all = append(all, namedCircuit{k.name, k.c})
	}
	return all
}

// Promises 48 and 49.
func TestNetlistsOfNamedCircuits(t *testing.T) {
	for _, k := range netCircuits() {
		checkNetlist(t, k.name, k.c)
		checkSinks(t, k.name, k.c, netsAround(k.c))
	}
}

// Promises 48 and 49.
func TestNetlistsOfSmallCircuits(t *testing.T) {
	for c := range smallCircuits {
		if impl.CircuitValid(c) {
			checkNetlist(t, "small circuit", c)
		} else {
			checkNoNetlist(t, "small circuit", c, []int{-1, 0, 1, 2, 3})
		}
		if t.Failed() {
			return
		}
	}
}

// Promises 48 and 49.
func TestNetlistsOfAllCircuitsOfThreeGates(t *testing.T) {
	for c := range threeGates {
		checkCells(t, "three gates", c)
		cells := impl.Cells(c)
		for net, want := range modelSinks(cells) {
			if got := impl.NetSinks(c, net); !slices.Equal(got, want) {
				t.Fatalf("sinks %v of net %d: cells %v of %v", got, net, cells, c)
			}
		}
	}
}

// Promises 48 and 49 for circuits up to the limits.
func TestNetlistsOfMixedCircuits(t *testing.T) {
	registers, inverted, shared, large := 0, 0, 0, 0
	for seed := range 1600 {
		c := mixed(seed)
		if seed%2 == 0 {
			c = crowded(seed)
		}
		checkNetlist(t, "mixed circuit", c)
		cells := impl.Cells(c)
		if len(cells) >= 10 {
			large++
		}
		for _, cell := range cells[:len(c.Next)] {
			registers++
			if cell.Table == 1 {
				inverted++
			}
		}
		for _, sinks := range modelSinks(cells) {
			if len(sinks) > 1 {
				shared++
			}
		}
	}
	// Circuits of few cells, or whose nets have one sink each, would test little.
	if registers < 2000 || inverted < 1000 || shared < 3000 || large < 60 {
		t.Errorf("%d registers, %d of them inverted or true, %d nets with several sinks, %d circuits of many cells", registers, inverted, shared, large)
	}
}

// checkNoNetlist requires what both functions return for an invalid circuit.
func checkNoNetlist(t *testing.T, name string, c impl.Circuit, nets []int) {
	t.Helper()
	if got := impl.Cells(c); len(got) != 0 {
		t.Errorf("%s: cells %v of %v", name, got, c)
	}
	for _, net := range nets {
		if got := impl.NetSinks(c, net); len(got) != 0 {
			t.Errorf("%s: sinks %v of net %d: %v", name, got, net, c)
		}
	}
}

// pastLimits returns circuits that are one step past each limit, and would have cells if that were allowed.
func pastLimits() []impl.Circuit {
	many := mostCells()
	return []impl.Circuit{
		{Inputs: impl.MaxInputs + 1, Next: []int{2}},
		{Inputs: 1, Next: slices.Repeat([]int{2}, impl.MaxLatches+1)},
		{Inputs: many.Inputs, Next: many.Next, Gates: append(many.Gates, impl.Gate{A: 2, B: 4}), Outs: many.Outs},
		{Inputs: many.Inputs, Next: many.Next, Gates: many.Gates, Outs: append(many.Outs, 2)},
		{Inputs: many.Inputs, Next: []int{40, 42, 44}, Gates: many.Gates, Outs: many.Outs},
	}
}

func TestInvalidCircuitsHaveNoNetlist(t *testing.T) {
	nets := farNets()
	for net := range 30 {
		nets = append(nets, net)
	}
	for _, k := range invalidCircuits() {
		checkNoNetlist(t, k.name, k.c, nets)
	}
	for _, c := range pastLimits() {
		checkNoNetlist(t, "past a limit", c, nets)
	}
}

func TestNetlistDoesNotWriteItsArguments(t *testing.T) {
	for _, k := range netCircuits() {
		c := roomy(k.c)
		impl.Cells(c)
		for net := -1; net < 4; net++ {
			impl.NetSinks(c, net)
		}
		checkUnwritten(t, k.name, c, k.c)
	}
	for _, k := range invalidCircuits() {
		before := copyOf(k.c)
		impl.Cells(k.c)
		impl.NetSinks(k.c, 1)
		if !reflect.DeepEqual(k.c, before) {
			t.Errorf("%s: changed: %v, before %v", k.name, k.c, before)
		}
	}
}

// Spoiling the inputs of one cell must change neither another one nor another result.
func TestCellsShareNoMemory(t *testing.T) {
	for _, k := range netCases() {
		c := roomy(k.c)
		first, second := impl.Cells(c), impl.Cells(c)
		for i := range first {
			spoilNumbers(first[i].Inputs)
			first[i].Inputs = k.cells[i].Inputs
			if !sameCells(first, k.cells) {
				t.Fatalf("%s: the inputs of cell %d share memory with those of another one", k.name, i)
			}
		}
		spoilLists(first, impl.Cell{Net: -100, Inputs: []int{-100}, Table: -100, Register: true})
		if !sameCells(second, k.cells) || !sameCells(impl.Cells(c), k.cells) {
			t.Errorf("%s: two results share memory", k.name)
		}
		checkUnwritten(t, k.name, c, k.c)
	}
}

func TestSinksShareNoMemory(t *testing.T) {
	for _, k := range netCases() {
		c := roomy(k.c)
		for net := range impl.VarCount(c) {
			first, second := impl.NetSinks(c, net), impl.NetSinks(c, net)
			spoilNumbers(first)
			if !slices.Equal(second, k.sinks[net]) || !slices.Equal(impl.NetSinks(c, net), k.sinks[net]) || !sameCells(impl.Cells(c), k.cells) {
				t.Errorf("%s: net %d: results share memory", k.name, net)
			}
		}
		checkUnwritten(t, k.name, c, k.c)
	}
}

// A circuit whose next states and outputs are one slice is an ordinary argument.
func TestNetlistOfSharedArguments(t *testing.T) {
	lits := []int{9, 6, 1}
	c := impl.Circuit{Next: lits, Gates: []impl.Gate{{A: 4, B: 2}}, Outs: lits}
	want := []impl.Cell{registerCell(1, 1, 4), registerCell(2, 2, 3), registerCell(3, 1), lutCell(4, 8, 1, 2)}
	if got := impl.Cells(c); !sameCells(got, want) {
		t.Errorf("%v", got)
	}
	if got := impl.NetSinks(c, 3); !slices.Equal(got, []int{1}) {
		t.Errorf("%v", got)
	}
	if !slices.Equal(lits, []int{9, 6, 1}) {
		t.Errorf("argument %v", lits)
	}
}

// Every netlist starts anew: an earlier one leaves no state behind.
func TestNetlistKeepsNoState(t *testing.T) {
	for range 3 {
		for _, k := range netCases() {
			if got := impl.Cells(k.c); !sameCells(got, k.cells) {
				t.Fatalf("%s: %v", k.name, got)
			}
			for net := range impl.VarCount(k.c) + 1 {
				if got := impl.NetSinks(k.c, net); !slices.Equal(got, k.sinks[net]) {
					t.Fatalf("%s: net %d: %v", k.name, net, got)
				}
			}
		}
	}
}
