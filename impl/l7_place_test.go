package impl

import (
	"slices"
	"testing"
)

// placedExamples are circuits of no, one, some and as many cells as there may be, with nets of all kinds.
func placedExamples() []Circuit {
	return []Circuit{
		{},
		{Inputs: 4, Outs: []int{8, 2, 5}},
		{Next: []int{3}, Outs: []int{0, 2}},
		{Inputs: 1, Next: []int{10}, Gates: []Gate{{A: 2, B: 4}, {A: 3, B: 5}, {A: 7, B: 9}}, Outs: []int{4}},
		{Inputs: 1, Next: []int{0, 2}},
		{Next: []int{0, 6, 2}, Outs: []int{0, 4, 2}},
		{Inputs: 2, Next: []int{6, 6, 8}, Gates: []Gate{{A: 2, B: 4}}, Outs: []int{6, 12, 6}},
		{Inputs: 4, Next: []int{40, 42, 33}, Gates: []Gate{
			{A: 2, B: 4}, {A: 6, B: 8}, {A: 10, B: 12}, {A: 14, B: 2},
			{A: 2, B: 6}, {A: 4, B: 10}, {A: 8, B: 12}, {A: 10, B: 14},
			{A: 16, B: 18}, {A: 20, B: 22}, {A: 24, B: 26}, {A: 28, B: 30},
			{A: 32, B: 34}, {A: 36, B: 38},
		}, Outs: []int{40, 43, 33}},
	}
}

func copyOfPlacer(p *placer) placer {
	old := *p
	old.place, old.lengths = slices.Clone(p.place), slices.Clone(p.lengths)
	return old
}

// checkSamePlacement requires the same cells on the same tiles, and the same lengths.
func checkSamePlacement(t *testing.T, p *placer, old placer) {
	t.Helper()
	if !slices.Equal(p.place, old.place) || p.cellOn != old.cellOn || !slices.Equal(p.lengths, old.lengths) || p.total != old.total {
		t.Fatalf("placement %v of length %d, want %v of length %d", p.place, p.total, old.place, old.total)
	}
}

// checkUpToDate requires that both directions of the placement agree, and that measuring every net anew gives the same lengths.
func checkUpToDate(t *testing.T, c Circuit, p *placer) {
	t.Helper()
	if !PlacementValid(c, p.place) {
		t.Fatalf("placement %v is not valid: %v", p.place, c)
	}
	for tile, cell := range p.cellOn {
		if cell != slices.Index(p.place, tile) {
			t.Fatalf("cell %d is on tile %d: placement %v", cell, tile, p.place)
		}
	}
	total := 0
	for net, pins := range p.pins {
		if p.lengths[net] != netLength(pins, p.place) {
			t.Fatalf("length %d of net %d, want %d: placement %v of %v", p.lengths[net], net, netLength(pins, p.place), p.place, c)
		}
		total += p.lengths[net]
	}
	if p.total != total || total != WireLength(c, p.place) {
		t.Fatalf("wire length %d, want %d: placement %v of %v", p.total, total, p.place, c)
	}
}

func TestMovesKeepTheLengthUpToDate(t *testing.T) {
	for _, c := range placedExamples() {
		p := newPlacer(c)
		checkUpToDate(t, c, p)
		for i := range 200 {
			for cell := range p.place {
				old := copyOfPlacer(p)
				tile := (i*11 + cell*7 + i*i) % tileCount
				p.Move(cell, tile)
				checkUpToDate(t, c, p)
				if p.place[cell] != tile || p.cellOn[old.place[cell]] != old.cellOn[tile] {
					t.Fatalf("cell %d moved to tile %d: %v, before %v", cell, tile, p.place, old.place)
				}
				if i%3 > 0 {
					p.Undo()
					checkSamePlacement(t, p, old)
				}
			}
		}
	}
}

func TestMoveChangesNoOtherCell(t *testing.T) {
	for _, c := range placedExamples() {
		for cell := range Cells(c) {
			for tile := range tileCount {
				p := newPlacer(c)
				p.Move(cell, tile)
				for i, on := range p.place {
					switch {
					case i == cell && on != tile,
						i != cell && i == tile && on != cell,
						i != cell && i != tile && on != i:
						t.Fatalf("cell %d moved to tile %d: %v", cell, tile, p.place)
					}
				}
			}
		}
	}
}

func TestUndoTakesBackOneMove(t *testing.T) {
	for _, c := range placedExamples() {
		p := newPlacer(c)
		old := copyOfPlacer(p)
		p.Undo()
		checkSamePlacement(t, p, old)
		for cell := range p.place {
			p.Move(cell, 20)
			old := copyOfPlacer(p)
			p.Move(cell, (cell+3)%tileCount)
			for range 3 {
				p.Undo()
				checkSamePlacement(t, p, old)
			}
		}
	}
}

func TestPinsInOrder(t *testing.T) {
	input := func(edge int) pin { return pin{cell: noCell, edge: edge} }
	c := Circuit{Inputs: 3, Next: []int{4, 4, 11}, Gates: []Gate{{A: 4, B: 10}, {A: 14, B: 2}}, Outs: []int{5, 1, 16}}
	want := [][]pin{
		nil,
		{input(0), cellPin(3)},
		{input(5), cellPin(0), cellPin(1), cellPin(3), input(4)},
		{input(10)},
		{cellPin(0)},
		{cellPin(1), cellPin(2), cellPin(3)},
		{cellPin(2)},
		nil,
		{cellPin(3), input(14)},
	}
	got := netPins(c, Cells(c))
	if !slices.EqualFunc(got, want, slices.Equal[[]pin]) {
		t.Errorf("%v, want %v", got, want)
	}
}

func TestNetLengths(t *testing.T) {
	place := []int{0, 24, 12, 13, 17}
	cases := []struct {
		pins []pin
		want int
	}{
		{nil, 0},
		{[]pin{cellPin(1)}, 0},
		{[]pin{cellPin(1), cellPin(1)}, 0},
		{[]pin{cellPin(0), cellPin(1)}, 8},
		{[]pin{cellPin(1), cellPin(0)}, 8},
		{[]pin{cellPin(2), cellPin(3)}, 1},
		{[]pin{cellPin(2), cellPin(4)}, 1},
		{[]pin{cellPin(4), cellPin(3)}, 2},
		{[]pin{cellPin(2), cellPin(3), cellPin(4)}, 2},
		{[]pin{inputPin(2), outputPin(0)}, 6},
		{[]pin{inputPin(3), cellPin(2), outputPin(1)}, 6},
		{[]pin{cellPin(3), outputPin(0), outputPin(2)}, 3},
	}
	for _, k := range cases {
		if got := netLength(k.pins, place); got != k.want {
			t.Errorf("%v: %d, want %d", k.pins, got, k.want)
		}
	}
}

// The placements after every sweep are written out; after the third one the last circuit could still be improved.
func TestSweepsOneByOne(t *testing.T) {
	cases := []struct {
		c      Circuit
		places [][]int
		totals []int
	}{
		{Circuit{}, [][]int{nil, nil}, []int{0, 0}},
		{Circuit{Next: []int{0}, Outs: []int{2}}, [][]int{{0}, {4}, {4}}, []int{4, 0, 0}},
		{Circuit{Inputs: 1, Next: []int{0, 2}}, [][]int{{0, 1}, {1, 0}, {1, 0}}, []int{1, 0, 0}},
		{Circuit{Next: []int{0, 2}, Outs: []int{2}}, [][]int{{0, 1}, {2, 3}, {4, 3}, {4, 3}}, []int{4, 2, 1, 1}},
		{Circuit{Next: []int{0, 2}, Outs: []int{0, 0, 2}}, [][]int{{0, 1}, {2, 3}, {4, 9}, {14, 9}, {14, 9}}, []int{6, 4, 2, 1, 1}},
		{Circuit{Next: []int{0, 6, 2}, Outs: []int{0, 4, 2}}, [][]int{{0, 1, 2}, {1, 3, 2}, {4, 3, 8}, {3, 9, 8}, {13, 9, 14}, {13, 9, 14}}, []int{11, 8, 6, 4, 2, 2}},
	}
	for _, k := range cases {
		p := newPlacer(k.c)
		for i, want := range k.places {
			if i > 0 {
				p.sweep()
			}
			if !slices.Equal(p.place, want) || p.total != k.totals[i] {
				t.Errorf("sweep %d: placement %v of length %d, want %v of length %d: %v", i, p.place, p.total, want, k.totals[i], k.c)
			}
			checkUpToDate(t, k.c, p)
		}
		last := k.places[min(Sweeps, len(k.places)-1)]
		if got := Place(k.c); !slices.Equal(got, last) {
			t.Errorf("placement %v, want %v: %v", got, last, k.c)
		}
	}
}
