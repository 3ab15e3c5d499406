package tests

import (
	"math"
	"reflect"
	"slices"
	"testing"

	"loop.example/fpgatoolchain/impl"
)

const (
	tileCount       = impl.Side * impl.Side
	longestDistance = 2 * (impl.Side - 1)
)

// tilesFrom returns n tiles, the first one and then each step further, around the fabric.
func tilesFrom(n int, first int, step int) []int {
	place := []int{}
	for i := range n {
		place = append(place, (first+i*step)%tileCount)
	}
	return place
}

// inOrder returns the placement with cell i on tile i.
func inOrder(n int) []int {
	return tilesFrom(n, 0, 1)
}

func reversed(place []int) []int {
	place = slices.Clone(place)
	slices.Reverse(place)
	return place
}

// shuffled returns n different tiles that a number determines.
func shuffled(n int, seed int) []int {
	x := uint32(seed)*2654435761 + 7
	tiles := inOrder(tileCount)
	for i := range tiles {
		x = x*1664525 + 1013904223
		k := i + int(x>>8)%(tileCount-i)
		tiles[i], tiles[k] = tiles[k], tiles[i]
	}
	return tiles[:n]
}

// somePlacements returns valid placements of n cells: in and against the order of the tiles, at either end, spread out, column by column, and without order.
func somePlacements(n int) [][]int {
	places := [][]int{inOrder(n), tilesFrom(n, tileCount-n, 1), tilesFrom(n, 3, 7), tilesFrom(n, 24, 24), tilesFrom(n, 0, 6), tilesFrom(n, 4, 4)}
	columns := []int{}
	for i := range n {
		columns = append(columns, i%impl.Side*impl.Side+i/impl.Side)
	}
	places = append(places, columns)
	for seed := range 4 {
		places = append(places, shuffled(n, seed))
	}
	return places
}

// modelTiles returns the tiles that a net connects, the source first, and then those of cells and those of outputs; none if nothing uses it.
func modelTiles(c impl.Circuit, cells []impl.Cell, place []int, net int) []int {
	sinks := []int{}
	for i, cell := range cells {
		if slices.Contains(cell.Inputs, net) {
			sinks = append(sinks, place[i])
		}
	}
	for row, lit := range c.Outs {
		if lit/2 == net {
			sinks = append(sinks, row*impl.Side+impl.Side-1)
		}
	}
	if len(sinks) == 0 {
		return nil
	}
	source := (net - 1) * impl.Side
	for i, cell := range cells {
		if cell.Net == net {
			source = place[i]
		}
	}
	return append([]int{source}, sinks...)
}

// modelLength looks at every two tiles that a net connects.
func modelLength(c impl.Circuit, cells []impl.Cell, place []int) int {
	total := 0
	for net := 1; net <= c.Inputs+len(c.Next)+len(c.Gates); net++ {
		tiles := modelTiles(c, cells, place, net)
		rows, columns := 0, 0
		for _, from := range tiles {
			for _, to := range tiles {
				rows = max(rows, to/impl.Side-from/impl.Side)
				columns = max(columns, to%impl.Side-from%impl.Side)
			}
		}
		total += rows + columns
	}
	return total
}

// modelMoved returns the placement in which a cell is on a tile, and the cell that was there on the tile that it has left.
func modelMoved(place []int, cell int, tile int) []int {
	moved := slices.Clone(place)
	if other := slices.Index(place, tile); other >= 0 {
		moved[other] = place[cell]
	}
	moved[cell] = tile
	return moved
}

// modelSweep makes one sweep and measures every placement anew.
func modelSweep(c impl.Circuit, cells []impl.Cell, place []int) []int {
	length := modelLength(c, cells, place)
	for cell := range cells {
		for tile := range tileCount {
			moved := modelMoved(place, cell, tile)
			if shorter := modelLength(c, cells, moved); shorter < length {
				place, length = moved, shorter
			}
		}
	}
	return place
}

// modelSweeps returns the placements after no sweep, one sweep and so on.
func modelSweeps(c impl.Circuit, sweeps int) [][]int {
	cells := modelCells(c)
	places := [][]int{inOrder(len(cells))}
	for i := range sweeps {
		places = append(places, modelSweep(c, cells, places[i]))
	}
	return places
}

// Promises 50 and 51 for one valid placement.
func checkLength(t *testing.T, name string, c impl.Circuit, cells []impl.Cell, place []int) {
	t.Helper()
	if !impl.PlacementValid(c, place) || !impl.PlacementValid(c, reversed(place)) {
		t.Fatalf("%s: placement %v, or its reverse, is not valid: %v", name, place, c)
	}
	got := impl.WireLength(c, place)
	if got < 0 || got > impl.VarCount(c)*longestDistance {
		t.Fatalf("%s: wire length %d of placement %v, which is out of bounds: %v", name, got, place, c)
	}
	if want := modelLength(c, cells, place); got != want {
		t.Fatalf("%s: wire length %d of placement %v, want %d: %v", name, got, place, want, c)
	}
}

// checkNoPlacement requires the answers for a placement that is not valid.
func checkNoPlacement(t *testing.T, name string, c impl.Circuit, place []int) {
	t.Helper()
	if impl.PlacementValid(c, place) {
		t.Fatalf("%s: placement %v is valid: %v", name, place, c)
	}
	if got := impl.WireLength(c, place); got != -1 {
		t.Fatalf("%s: wire length %d of placement %v: %v", name, got, place, c)
	}
	if routes, ok := impl.Route(c, place); ok || len(routes) != 0 {
		t.Fatalf("%s: routes %v of placement %v: %v", name, routes, place, c)
	}
}

// Promises 50 and 51 for several placements, valid and invalid ones.
func checkLengths(t *testing.T, name string, c impl.Circuit) {
	t.Helper()
	cells := modelCells(c)
	for _, place := range somePlacements(len(cells)) {
		checkLength(t, name, c, cells, place)
		checkLength(t, name, c, cells, reversed(place))
	}
	long := inOrder(len(cells) + 1)
	checkNoPlacement(t, name+", too long", c, long)
	if len(cells) > 0 {
		checkNoPlacement(t, name+", too short", c, long[1:len(cells)])
		checkNoPlacement(t, name+", nil", c, nil)
	}
}

// Promise 52.
func checkNoWorse(t *testing.T, name string, c impl.Circuit, place []int) {
	t.Helper()
	if !impl.PlacementValid(c, place) {
		t.Fatalf("%s: placement %v is not valid: %v", name, place, c)
	}
	before, after := impl.WireLength(c, inOrder(len(place))), impl.WireLength(c, place)
	if after > before {
		t.Fatalf("%s: wire length %d of placement %v, %d before: %v", name, after, place, before, c)
	}
}

// checkPlaced requires promise 52 and the placement that the steps of the specification give.
func checkPlaced(t *testing.T, name string, c impl.Circuit) {
	t.Helper()
	place := impl.Place(c)
	checkNoWorse(t, name, c, place)
	if want := modelSweeps(c, impl.Sweeps)[impl.Sweeps]; !slices.Equal(place, want) {
		t.Fatalf("%s: placement %v, want %v: %v", name, place, want, c)
	}
}

func TestFabricLimits(t *testing.T) {
	if impl.Side != 5 || impl.Sweeps != 3 {
		t.Errorf("Side is %d, Sweeps is %d", impl.Side, impl.Sweeps)
	}
}

// wireCase is a circuit and the wire length of one of its placements.
type wireCase struct {
	name  string
	c     impl.Circuit
	place []int
	want  int
}

// netsThatNothingUses are circuits in which some net, or all of them, has no use.
func netsThatNothingUses() []wireCase {
	and := impl.Gate{A: 2, B: 4}
	return []wireCase{
		{"an input that nothing uses", impl.Circuit{Inputs: 2, Next: []int{2}}, []int{24}, 8},
		{"the first inputs that nothing uses", impl.Circuit{Inputs: 4, Outs: []int{0, 0, 8}}, nil, 5},
		{"only inputs", impl.Circuit{Inputs: 4}, nil, 0},
		{"a latch that nothing uses", impl.Circuit{Inputs: 1, Next: []int{2}}, []int{3}, 3},
		{"a latch beside one that is used", impl.Circuit{Next: []int{1, 0}, Outs: []int{2}}, []int{3, 20}, 1},
		{"only latches that nothing uses", impl.Circuit{Next: []int{0, 1, 0}}, []int{0, 24, 12}, 0},
		{"a gate that nothing uses", withTwoInputs([]int{2}, and), nil, 4},
		{"a gate that only an unused gate uses", withTwoInputs([]int{4}, and, impl.Gate{A: 6, B: 2}), nil, 5},
		{"gates that another one covers", counter(), []int{24, 0}, 16},
		{"nothing", impl.Circuit{}, nil, 0},
	}
}

// netsOfConstantFalse are circuits in which outputs or latches use it.
func netsOfConstantFalse() []wireCase {
	return []wireCase{
		{"constant outputs", impl.Circuit{Outs: []int{0, 1, 0}}, nil, 0},
		{"the first and the last output constant", impl.Circuit{Inputs: 1, Outs: []int{0, 2, 1}}, nil, 5},
		{"constant latches and outputs", impl.Circuit{Next: []int{0, 1}, Outs: []int{1, 0, 0}}, []int{24, 12}, 0},
		{"a constant latch as the only other output", impl.Circuit{Next: []int{1}, Outs: []int{0, 1, 3}}, []int{12}, 2},
		{"operands of variable 0", impl.Circuit{Inputs: 1, Gates: []impl.Gate{{A: 0, B: 2}}, Outs: []int{0, 4, 0}}, []int{10}, 7},
		{"a gate of constants", impl.Circuit{Gates: []impl.Gate{{A: 1, B: 0}}, Outs: []int{3, 1}}, []int{24}, 4},
	}
}

// netsOfOutputs are circuits in which a net is used by one output, by several ones, or by outputs and cells.
func netsOfOutputs() []wireCase {
	and := impl.Gate{A: 2, B: 4}
	shared := impl.Circuit{Next: []int{0, 2, 3}, Outs: []int{0, 3}}
	return []wireCase{
		{"an input", impl.Circuit{Inputs: 1, Outs: []int{2}}, nil, 4},
		{"an input, complemented", impl.Circuit{Inputs: 1, Outs: []int{3}}, nil, 4},
		{"the last input as the first output", impl.Circuit{Inputs: 4, Outs: []int{8}}, nil, 7},
		{"the first input as the last output", impl.Circuit{Inputs: 4, Outs: []int{0, 0, 2}}, nil, 6},
		{"three inputs in the opposite order", impl.Circuit{Inputs: 3, Outs: []int{6, 4, 2}}, nil, 16},
		{"all outputs of the first input", impl.Circuit{Inputs: 1, Outs: []int{2, 3, 2}}, nil, 6},
		{"the outer outputs of the second input", impl.Circuit{Inputs: 2, Outs: []int{4, 0, 5}}, nil, 6},
		{"all outputs of the last input", impl.Circuit{Inputs: 4, Outs: []int{8, 8, 9}}, nil, 7},
		{"a latch at its output", impl.Circuit{Next: []int{1}, Outs: []int{0, 2}}, []int{9}, 0},
		{"a latch far from its output", impl.Circuit{Next: []int{1}, Outs: []int{0, 2}}, []int{20}, 7},
		{"a latch between its outputs", impl.Circuit{Next: []int{1}, Outs: []int{2, 3, 2}}, []int{7}, 4},
		{"a latch at one of its outputs", impl.Circuit{Next: []int{1}, Outs: []int{2, 0, 2}}, []int{14}, 2},
		{"a gate with several outputs", withTwoInputs([]int{6, 0, 7}, and), []int{6}, 8},
		{"an input for an output and a cell on the way", impl.Circuit{Inputs: 1, Next: []int{2}, Outs: []int{2}}, []int{2}, 4},
		{"an input for an output and a cell off the way", impl.Circuit{Inputs: 1, Next: []int{2}, Outs: []int{3}}, []int{20}, 8},
		{"a latch for an output and cells", shared, []int{12, 17, 11}, 5},
		{"a latch for an output and cells, elsewhere", shared, []int{9, 24, 5}, 7},
		{"a gate for an output and a latch", impl.Circuit{Inputs: 2, Next: []int{8}, Gates: []impl.Gate{and}, Outs: []int{9}}, []int{13, 6}, 8},
	}
}

// netsOfCells are circuits in which a net is used by its own cell, by another one, or by several ones.
func netsOfCells() []wireCase {
	toggle := impl.Circuit{Next: []int{4}, Gates: []impl.Gate{{A: 3, B: 3}}}
	shift := impl.Circuit{Inputs: 1, Next: []int{2, 4, 6}, Outs: []int{8}}
	tree := withInputs(4, []int{14, 15, 10}, impl.Gate{A: 2, B: 4}, impl.Gate{A: 7, B: 8}, impl.Gate{A: 11, B: 13})
	return []wireCase{
		{"a latch that keeps its value", impl.Circuit{Next: []int{2}}, []int{24}, 0},
		{"a latch that inverts its value", impl.Circuit{Next: []int{3}}, []int{13}, 0},
		{"latches that keep or invert their values", impl.Circuit{Next: []int{2, 5, 6}}, []int{24, 0, 12}, 0},
		{"a latch that keeps its value and is an output", impl.Circuit{Next: []int{2}, Outs: []int{2}}, []int{20}, 8},
		{"a latch that inverts its value, with several outputs", impl.Circuit{Next: []int{3}, Outs: []int{2, 3}}, []int{13}, 3},
		{"a latch and its gate", toggle, []int{0, 24}, 16},
		{"a latch beside its gate", toggle, []int{12, 17}, 2},
		{"three latches of one input, in the corners", impl.Circuit{Inputs: 1, Next: []int{2, 3, 2}}, []int{24, 4, 20}, 8},
		{"three latches of one input, close to it", impl.Circuit{Inputs: 1, Next: []int{2, 3, 2}}, []int{1, 5, 6}, 2},
		{"a latch for itself and others", impl.Circuit{Next: []int{2, 2, 3}}, []int{12, 13, 17}, 2},
		{"a latch for others only", impl.Circuit{Next: []int{1, 2, 3}}, []int{12, 3, 20}, 7},
		{"an input between its latches", impl.Circuit{Inputs: 2, Next: []int{4, 4}}, []int{0, 10}, 2},
		{"latches that exchange their values", impl.Circuit{Next: []int{4, 2}}, []int{4, 20}, 16},
		{"shift register", shift, []int{12, 0, 24}, 20},
		{"shift register in one row", shift, []int{1, 2, 3}, 4},
		{"tree", tree, []int{0, 11, 8}, 15},
		{"most cells", mostCells(), inOrder(17), 87},
	}
}

func wireCases() []wireCase {
	return slices.Concat(netsThatNothingUses(), netsOfConstantFalse(), netsOfOutputs(), netsOfCells())
}

// Promise 51: the wire lengths are written out, so that this test does not depend on a model.
func TestKnownWireLengths(t *testing.T) {
	for _, k := range wireCases() {
		if !impl.PlacementValid(k.c, k.place) {
			t.Errorf("%s: placement %v is not valid: %v", k.name, k.place, k.c)
		}
		if got := impl.WireLength(k.c, k.place); got != k.want {
			t.Errorf("%s: wire length %d of placement %v, want %d: %v", k.name, got, k.place, k.want, k.c)
		}
	}
}

// distance counts steps between neighbouring tiles.
func distance(row int, column int, tile int) int {
	rows, columns := tile/impl.Side-row, tile%impl.Side-column
	return max(rows, -rows) + max(columns, -columns)
}

// Promise 51: every input enters at the left of its row, and every output leaves at the right of its row, wherever the cell is.
func TestWireLengthsAtEveryRow(t *testing.T) {
	for tile := range tileCount {
		for row := range impl.MaxInputs {
			c := impl.Circuit{Inputs: impl.MaxInputs, Next: []int{2 + 2*row}}
			if got, want := impl.WireLength(c, []int{tile}), distance(row, 0, tile); got != want {
				t.Errorf("input of row %d: wire length %d to tile %d, want %d", row, got, tile, want)
			}
		}
		for row := range impl.MaxOutputs {
			c := impl.Circuit{Next: []int{1}, Outs: make([]int, impl.MaxOutputs)}
			c.Outs[row] = 3
			if got, want := impl.WireLength(c, []int{tile}), distance(row, impl.Side-1, tile); got != want {
				t.Errorf("output of row %d: wire length %d to tile %d, want %d", row, got, tile, want)
			}
		}
	}
	for input := range impl.MaxInputs {
		for output := range impl.MaxOutputs {
			c := impl.Circuit{Inputs: impl.MaxInputs, Outs: make([]int, impl.MaxOutputs)}
			c.Outs[output] = 2 + 2*input
			if got, want := impl.WireLength(c, nil), distance(input, 0, output*impl.Side+impl.Side-1); got != want {
				t.Errorf("input of row %d, output of row %d: wire length %d, want %d", input, output, got, want)
			}
		}
	}
}

// placedCircuits returns all valid circuits that some test names.
func placedCircuits() []namedCircuit {
	all := netCircuits()
	for _, k := range wireCases() {
		all = append(all, namedCircuit{k.name, k.c})
	}
	for _, k := range placeCases() {
		all = append(all, namedCircuit{k.name, k.c})
	}
	return all
}

// Promises 50 and 51.
func TestWireLengthsOfNamedCircuits(t *testing.T) {
	for _, k := range placedCircuits() {
		checkLengths(t, k.name, k.c)
	}
}

// Promises 50 and 51: all placements of one and of two cells, with tiles from outside the fabric.
func TestAllPlacementsOfFewCells(t *testing.T) {
	one := impl.Circuit{Inputs: 3, Next: []int{6}, Outs: []int{8, 0, 9}}
	two := impl.Circuit{Inputs: 2, Next: []int{9}, Gates: []impl.Gate{{A: 4, B: 6}}, Outs: []int{8, 6, 2}}
	for a := -3; a < tileCount+3; a++ {
		inside := a >= 0 && a < tileCount
		if inside {
			checkLength(t, "one cell", one, modelCells(one), []int{a})
		} else {
			checkNoPlacement(t, "one cell", one, []int{a})
		}
		for b := -3; b < tileCount+3; b++ {
			if inside && b >= 0 && b < tileCount && a != b {
				checkLength(t, "two cells", two, modelCells(two), []int{a, b})
			} else {
				checkNoPlacement(t, "two cells", two, []int{a, b})
			}
		}
	}
}

// several are circuits of one, two, three and as many cells as there may be.
func several() []namedCircuit {
	return []namedCircuit{
		{"one cell", impl.Circuit{Next: []int{1}, Outs: []int{2}}},
		{"two cells", counter()},
		{"three cells", impl.Circuit{Inputs: 1, Next: []int{2, 4, 6}, Outs: []int{8}}},
		{"most cells", mostCells()},
	}
}

// farTiles are outside the fabric; some would be inside if they were cut off, or if their sign or all but the remainder were lost.
func farTiles() []int {
	return []int{-1, -2, -3, -24, -25, -26, -64, math.MinInt, math.MinInt + 1, math.MinInt32, 25, 26, 27, 31, 32, 49, 50, 63, 64, 65, 128, 256, 1 << 31, 1 << 32, 1<<32 + 1, -1 << 32, 1 - 1<<32, math.MaxInt32, math.MaxInt - 1, math.MaxInt}
}

// Promises 50 and 51.
func TestTilesOutsideTheFabric(t *testing.T) {
	for _, k := range several() {
		n := len(impl.Cells(k.c))
		for _, place := range somePlacements(n) {
			for i := range place {
				for _, tile := range farTiles() {
					wrong := slices.Clone(place)
					wrong[i] = tile
					checkNoPlacement(t, k.name, k.c, wrong)
					checkNoPlacement(t, k.name, k.c, reversed(wrong))
				}
			}
		}
	}
}

// Promise 50: the first and the last tile are in the fabric.
func TestOutermostTiles(t *testing.T) {
	for _, k := range several() {
		n := len(impl.Cells(k.c))
		for i := range n {
			for _, tile := range []int{0, tileCount - 1} {
				place := tilesFrom(n, 1, 1)
				place[i] = tile
				checkLength(t, k.name, k.c, modelCells(k.c), place)
			}
		}
	}
}

// Promises 50 and 51.
func TestTilesUsedTwice(t *testing.T) {
	for _, k := range several() {
		n := len(impl.Cells(k.c))
		for _, place := range somePlacements(n) {
			for i := range n {
				for j := range i {
					wrong := slices.Clone(place)
					wrong[i] = wrong[j]
					checkNoPlacement(t, k.name, k.c, wrong)
					checkNoPlacement(t, k.name, k.c, reversed(wrong))
				}
			}
		}
		for tile := range tileCount {
			if n > 1 {
				checkNoPlacement(t, k.name, k.c, slices.Repeat([]int{tile}, n))
			}
		}
	}
}

// Promises 50 and 51: one tile for every cell, no more and no less.
func TestLengthsOfPlacements(t *testing.T) {
	for _, k := range several() {
		n := len(impl.Cells(k.c))
		for count := range 2*tileCount + 2 {
			if count != n {
				checkNoPlacement(t, k.name, k.c, tilesFrom(count, 0, 1))
				checkNoPlacement(t, k.name, k.c, tilesFrom(count, 3, 7))
			}
		}
		checkNoPlacement(t, k.name+", nil", k.c, nil)
		checkNoPlacement(t, k.name+", empty", k.c, []int{})
		// What is behind the end of a slice does not belong to it.
		checkNoPlacement(t, k.name+", too short", k.c, inOrder(n)[:n-1])
		checkLength(t, k.name, k.c, modelCells(k.c), tilesFrom(n+3, 0, 1)[:n])
	}
}

// Promises 50 and 51.
func TestPlacementsWithoutCells(t *testing.T) {
	for _, c := range []impl.Circuit{{}, {Inputs: 4}, {Outs: []int{0, 1, 0}}, {Inputs: 1, Outs: []int{2, 3, 0}}, {Inputs: 1, Gates: []impl.Gate{{A: 2, B: 3}}}} {
		for _, place := range [][]int{nil, {}, make([]int, 0, 3)} {
			checkLength(t, "no cells", c, nil, place)
		}
		for _, place := range [][]int{{0}, {24}, {-1}, {25}, {0, 1}, inOrder(17), inOrder(25)} {
			checkNoPlacement(t, "no cells", c, place)
		}
		if got := impl.Place(c); len(got) != 0 {
			t.Errorf("placement %v of %v", got, c)
		}
	}
}

// placeCase is a circuit and its placement.
type placeCase struct {
	name string
	c    impl.Circuit
	want []int
}

// placedWithoutCells are circuits that have nothing to place.
func placedWithoutCells() []placeCase {
	return []placeCase{
		{"nil slices", impl.Circuit{}, nil},
		{"empty slices", impl.Circuit{Next: []int{}, Gates: []impl.Gate{}, Outs: []int{}}, nil},
		{"only inputs", impl.Circuit{Inputs: 4}, nil},
		{"constant outputs", impl.Circuit{Outs: []int{0, 1, 0}}, nil},
		{"inputs as outputs", impl.Circuit{Inputs: 2, Outs: []int{4, 3}}, nil},
		{"gates that nothing uses", withTwoInputs([]int{2}, impl.Gate{A: 2, B: 4}), nil},
	}
}

// oneCell are circuits of a single cell, which moves as long as the wire becomes shorter.
func oneCell() []placeCase {
	constant := func(outs ...int) impl.Circuit { return impl.Circuit{Next: []int{0}, Outs: outs} }
	copied := func(next int, outs ...int) impl.Circuit {
		return impl.Circuit{Inputs: 4, Next: []int{next}, Outs: outs}
	}
	return []placeCase{
		{"nothing to gain", constant(), []int{0}},
		{"only its own net", impl.Circuit{Next: []int{3}}, []int{0}},
		{"the first output", constant(2), []int{4}},
		{"the second output", constant(0, 3), []int{9}},
		{"the last output", constant(0, 0, 2), []int{14}},
		{"the first of two outputs", constant(2, 0, 3), []int{4}},
		{"the first input", copied(2), []int{0}},
		{"the second input", copied(5), []int{5}},
		{"the third input", copied(6), []int{10}},
		{"the last input", copied(9), []int{15}},
		{"anywhere between the first input and the first output", copied(2, 10), []int{0}},
		{"anywhere between the last input and the second output", copied(8, 0, 10), []int{5}},
		{"anywhere between the last input and the last output", copied(8, 0, 0, 10), []int{10}},
		{"a gate", withTwoInputs([]int{6}, impl.Gate{A: 2, B: 4}), []int{0}},
		{"a gate of the last inputs", withInputs(4, []int{10}, impl.Gate{A: 6, B: 8}), []int{10}},
		{"a gate of one input, with three outputs", withInputs(3, []int{8, 8, 9}, impl.Gate{A: 6, B: 6}), []int{10}},
	}
}

// someLatches are circuits of two or three cells; those whose names tell a number of sweeps need just as many.
func someLatches() []placeCase {
	latches := func(inputs int, outs []int, next ...int) impl.Circuit {
		return impl.Circuit{Inputs: inputs, Next: next, Outs: outs}
	}
	return []placeCase{
		// The first cell needs no tile of its own, but stands where the second one has to be.
		{"only an exchange pays", latches(1, nil, 0, 2), []int{1, 0}},
		{"only an exchange pays, of the second input", latches(2, nil, 4, 2), []int{5, 0}},
		{"an exchange with the last cell", latches(0, []int{2}, 4, 2, 0), []int{4, 3, 0}},
		{"an exchange is no gain", latches(1, nil, 2, 2, 2), []int{0, 1, 2}},
		{"all placements are equal", latches(0, nil, 0, 1, 0), []int{0, 1, 2}},
		{"two sweeps", latches(0, []int{2}, 0, 2), []int{4, 3}},
		{"three sweeps", latches(0, []int{0, 0, 2}, 0, 2), []int{14, 9}},
		{"four sweeps, but only three are made", latches(0, []int{0, 4, 2}, 0, 6, 2), []int{3, 9, 8}},
		{"latches that exchange their values", latches(0, []int{2, 4}, 4, 2), []int{4, 9}},
		{"one input each", latches(3, nil, 2, 4, 6), []int{0, 5, 10}},
		{"one output each", latches(0, []int{2, 4, 6}, 0, 0, 0), []int{4, 9, 14}},
		{"one input for all", latches(2, nil, 4, 4, 4), []int{0, 1, 5}},
		{"one input for all, and an output of another", latches(4, []int{2}, 8, 8, 8), []int{15, 10, 5}},
		{"several outputs of one latch", latches(4, []int{14, 14, 14}, 8, 6, 2), []int{15, 10, 2}},
		{"shift register", latches(1, []int{8}, 2, 4, 6), []int{0, 1, 2}},
		{"inputs and outputs in order", latches(4, []int{14, 12, 10}, 4, 6, 8), []int{5, 6, 2}},
	}
}

// someGates are circuits with gates, up to as many cells as there may be.
func someGates() []placeCase {
	tree := withInputs(4, []int{14, 15, 10}, impl.Gate{A: 2, B: 4}, impl.Gate{A: 7, B: 8}, impl.Gate{A: 11, B: 13})
	both := impl.Circuit{Inputs: 2, Next: []int{12, 12, 8}, Gates: []impl.Gate{{A: 4, B: 4}}, Outs: []int{10, 8, 6}}
	return []placeCase{
		{"counter", counter(), []int{1, 0}},
		{"tree", tree, []int{0, 10, 5}},
		{"five sweeps, but only three are made", both, []int{8, 3, 4, 5}},
		{"most cells", mostCells(), []int{16, 4, 15, 2, 8, 6, 5, 7, 11, 9, 10, 3, 0, 12, 14, 1, 13}},
	}
}

// crossed is mostCells with other next states and outputs, and with other operands for the gates that read gates of inputs and latches.
func crossed(next []int, outs []int, gates ...impl.Gate) impl.Circuit {
	c := mostCells()
	c.Next, c.Outs = next, outs
	copy(c.Gates[8:], gates)
	return c
}

// crowdedFabrics are circuits of as many cells as there may be: their last cell has to be moved too, or some cell is best off on the named tile of the last row, which is empty at first.
func crowdedFabrics() []placeCase {
	return []placeCase{
		{"the last cell moves", crossed([]int{42, 36, 36}, []int{34, 40, 12}),
			[]int{16, 8, 3, 6, 5, 7, 1, 10, 11, 9, 13, 0, 2, 12, 14, 4, 17}},
		{"tile 20", crossed([]int{42, 18, 40}, []int{18, 10, 18}, impl.Gate{A: 24, B: 26}, impl.Gate{A: 28, B: 22}, impl.Gate{A: 18, B: 30}, impl.Gate{A: 16, B: 20}),
			[]int{17, 4, 20, 8, 2, 9, 5, 1, 7, 0, 16, 6, 10, 11, 13, 15, 12}},
		{"tile 21", crossed([]int{42, 30, 28}, []int{40, 34, 16}, impl.Gate{A: 30, B: 16}, impl.Gate{A: 22, B: 20}, impl.Gate{A: 28, B: 24}, impl.Gate{A: 26, B: 18}),
			[]int{21, 8, 7, 13, 15, 5, 1, 10, 12, 6, 2, 3, 0, 11, 17, 4, 16}},
		{"tile 22", crossed([]int{20, 38, 42}, []int{40, 14, 20}, impl.Gate{A: 20, B: 16}, impl.Gate{A: 22, B: 28}, impl.Gate{A: 30, B: 24}, impl.Gate{A: 18, B: 26}),
			[]int{4, 18, 13, 5, 15, 3, 6, 10, 2, 16, 7, 8, 11, 12, 22, 9, 17}},
		{"tile 23", crossed([]int{42, 42, 40}, []int{16, 22, 24}, impl.Gate{A: 16, B: 30}, impl.Gate{A: 24, B: 20}, impl.Gate{A: 28, B: 26}, impl.Gate{A: 18, B: 22}),
			[]int{19, 23, 10, 2, 13, 17, 5, 7, 4, 18, 6, 1, 12, 9, 8, 11, 14}},
		{"tile 24", crossed([]int{42, 38, 40}, []int{22, 10, 16}, impl.Gate{A: 22, B: 20}, impl.Gate{A: 24, B: 30}, impl.Gate{A: 26, B: 18}, impl.Gate{A: 16, B: 28}),
			[]int{24, 4, 5, 9, 17, 6, 0, 7, 8, 13, 10, 1, 12, 18, 14, 11, 19}},
	}
}

func placeCases() []placeCase {
	return slices.Concat(placedWithoutCells(), oneCell(), someLatches(), someGates(), crowdedFabrics())
}

// Promise 52: the placements are written out, so that this test does not depend on a model.
func TestKnownPlacements(t *testing.T) {
	for _, k := range placeCases() {
		if got := impl.Place(k.c); !slices.Equal(got, k.want) {
			t.Errorf("%s: placement %v, want %v: %v", k.name, got, k.want, k.c)
		}
	}
	if got := len(impl.Place(mostCells())); got != impl.MaxLatches+impl.MaxGates {
		t.Errorf("most cells: %d cells", got)
	}
}

// Promise 52.
func TestPlacementsOfNamedCircuits(t *testing.T) {
	for _, k := range placedCircuits() {
		checkPlaced(t, k.name, k.c)
	}
}

// Promises 50, 51 and 52.
func TestPlacementsOfSmallCircuits(t *testing.T) {
	for c := range smallCircuits {
		if impl.CircuitValid(c) {
			checkPlaced(t, "small circuit", c)
		} else {
			checkNotPlaced(t, "small circuit", c, [][]int{nil, {0}, {0, 1}})
		}
		if t.Failed() {
			return
		}
	}
}

// threeLatches yields circuits of at most one input, three latches and three outputs: all choices of the variables, each with one choice of the complements.
func threeLatches(yield func(impl.Circuit) bool) {
	for inputs := range 2 {
		count := 1 + inputs + impl.MaxLatches
		for x := range count * count * count * count * count * count {
			lits := []int{}
			for digits := x; len(lits) < impl.MaxLatches+impl.MaxOutputs; digits /= count {
				lits = append(lits, digits%count*2+(x+digits)%2)
			}
			if !yield(impl.Circuit{Inputs: inputs, Next: lits[:impl.MaxLatches], Outs: lits[impl.MaxLatches:]}) {
				return
			}
		}
	}
}

// needed returns how many of the sweeps are needed for the last placement.
func needed(places [][]int) int {
	last := len(places) - 1
	for last > 0 && slices.Equal(places[last], places[last-1]) {
		last--
	}
	return last
}

// Promise 52: among these circuits are many for which the number of sweeps matters.
func TestPlacementsOfThreeLatches(t *testing.T) {
	sweeps := map[int]int{}
	for c := range threeLatches {
		places := modelSweeps(c, impl.Sweeps+1)
		place := impl.Place(c)
		if !slices.Equal(place, places[impl.Sweeps]) {
			t.Fatalf("placement %v, want %v: %v", place, places[impl.Sweeps], c)
		}
		checkNoWorse(t, "three latches", c, place)
		sweeps[needed(places)]++
	}
	if sweeps[1] < 1000 || sweeps[2] < 1000 || sweeps[3] < 200 || sweeps[4] < 10 {
		t.Errorf("numbers of circuits by the sweeps that they need: %v", sweeps)
	}
}

// Promises 50, 51 and 52 for circuits up to the limits.
func TestPlacementsOfMixedCircuits(t *testing.T) {
	moved, large := 0, 0
	sweeps := map[int]int{}
	for seed := range 1200 {
		c := mixed(seed)
		if seed%2 == 0 {
			c = crowded(seed)
		}
		checkLengths(t, "mixed circuit", c)
		places := modelSweeps(c, impl.Sweeps)
		place := impl.Place(c)
		if !slices.Equal(place, places[impl.Sweeps]) {
			t.Fatalf("circuit %d: placement %v, want %v: %v", seed, place, places[impl.Sweeps], c)
		}
		checkNoWorse(t, "mixed circuit", c, place)
		sweeps[needed(places)]++
		for i, tile := range place {
			if tile != i {
				moved++
			}
		}
		if len(place) >= 10 {
			large++
		}
	}
	// Circuits whose cells stay where they are would test little.
	if moved < 2000 || large < 40 || sweeps[1] < 400 || sweeps[2] < 100 || sweeps[3] < 10 {
		t.Errorf("%d cells moved, %d circuits of many cells, numbers of circuits by the sweeps that they need: %v", moved, large, sweeps)
	}
}

// checkNotPlaced requires what all three functions return for an invalid circuit.
func checkNotPlaced(t *testing.T, name string, c impl.Circuit, places [][]int) {
	t.Helper()
	if got := impl.Place(c); len(got) != 0 {
		t.Errorf("%s: placement %v of %v", name, got, c)
	}
	for _, place := range places {
		checkNoPlacement(t, name, c, place)
	}
}

func TestInvalidCircuitsAreNotPlaced(t *testing.T) {
	places := [][]int{nil, {}, {-1}, {25}, {0, 0}, {math.MinInt}, {math.MaxInt}}
	for n := 1; n <= tileCount+1; n++ {
		places = append(places, inOrder(n))
	}
	for _, k := range invalidCircuits() {
		checkNotPlaced(t, k.name, k.c, places)
	}
	for _, c := range pastLimits() {
		checkNotPlaced(t, "past a limit", c, places)
	}
}

// roomyPlace returns a placement with spare capacity behind it, in which every number is -7.
func roomyPlace(place []int) []int {
	return slices.Concat(place, []int{-7, -7, -7})[:len(place)]
}

// checkPlaceUnwritten requires that place is roomyPlace(original), spare capacity included.
func checkPlaceUnwritten(t *testing.T, name string, place []int, original []int) {
	t.Helper()
	all := place[:len(place)+3]
	if want := slices.Concat(original, []int{-7, -7, -7}); !slices.Equal(all, want) {
		t.Errorf("%s: changed: %v, before %v", name, all, want)
	}
}

func TestPlacementDoesNotWriteItsArguments(t *testing.T) {
	for _, k := range placedCircuits() {
		n := len(impl.Cells(k.c))
		c := roomy(k.c)
		impl.Place(c)
		for _, place := range append(somePlacements(n), inOrder(n+1), []int{0, 0}, []int{-1, 25, 3}) {
			argument := roomyPlace(place)
			impl.PlacementValid(c, argument)
			impl.WireLength(c, argument)
			checkPlaceUnwritten(t, k.name, argument, place)
		}
		checkUnwritten(t, k.name, c, k.c)
	}
	for _, k := range invalidCircuits() {
		before := copyOf(k.c)
		place := roomyPlace([]int{1, 0})
		impl.Place(k.c)
		impl.PlacementValid(k.c, place)
		impl.WireLength(k.c, place)
		checkPlaceUnwritten(t, k.name, place, []int{1, 0})
		if !reflect.DeepEqual(k.c, before) {
			t.Errorf("%s: changed: %v, before %v", k.name, k.c, before)
		}
	}
}

// Spoiling a result must change neither the argument nor another result.
func TestPlacementsShareNoMemory(t *testing.T) {
	for _, k := range placeCases() {
		c := roomy(k.c)
		first, second := impl.Place(c), impl.Place(c)
		spoilNumbers(first)
		if !slices.Equal(second, k.want) || !slices.Equal(impl.Place(c), k.want) {
			t.Errorf("%s: results share memory", k.name)
		}
		checkUnwritten(t, k.name, c, k.c)
	}
}

// A circuit whose next states and outputs are one slice, which is the placement too, is an ordinary argument.
func TestPlacementOfSharedArguments(t *testing.T) {
	lits := []int{9, 6, 1, 12}
	c := impl.Circuit{Next: lits[:3], Gates: []impl.Gate{{A: 4, B: 2}}, Outs: lits[:3]}
	cells := modelCells(c)
	checkLength(t, "shared", c, cells, lits)
	checkPlaced(t, "shared", c)
	if !slices.Equal(lits, []int{9, 6, 1, 12}) {
		t.Errorf("argument %v", lits)
	}
}

// Every placement starts anew: an earlier one leaves no state behind.
func TestPlacementKeepsNoState(t *testing.T) {
	for range 3 {
		for _, k := range placeCases() {
			if got := impl.Place(k.c); !slices.Equal(got, k.want) {
				t.Fatalf("%s: %v", k.name, got)
			}
		}
		for _, k := range wireCases() {
			if got := impl.WireLength(k.c, k.place); got != k.want {
				t.Fatalf("%s: %d", k.name, got)
			}
		}
	}
}
