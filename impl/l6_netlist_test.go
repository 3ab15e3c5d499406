package impl

import (
	"slices"
	"testing"
)

func sameCell(a Cell, b Cell) bool {
	return a.Net == b.Net && slices.Equal(a.Inputs, b.Inputs) && a.Table == b.Table && a.Register == b.Register
}

func TestBothKindsOfCells(t *testing.T) {
	cases := []struct {
		part cellPart
		want Cell
	}{
		{registerCell{latch: 2, next: 0}, Cell{Net: 2, Register: true}},
		{registerCell{latch: 3, next: 1}, Cell{Net: 3, Table: 1, Register: true}},
		{registerCell{latch: 2, next: 2}, Cell{Net: 2, Inputs: []int{1}, Table: 2, Register: true}},
		{registerCell{latch: 4, next: 9}, Cell{Net: 4, Inputs: []int{4}, Table: 1, Register: true}},
		{lutCell{Var: 5, Leaves: []int{1, 2}, Table: 6}, Cell{Net: 5, Inputs: []int{1, 2}, Table: 6}},
		{lutCell{Var: 7, Leaves: []int{2, 3, 5}, Table: 128}, Cell{Net: 7, Inputs: []int{2, 3, 5}, Table: 128}},
		{lutCell{Var: 3, Table: 1}, Cell{Net: 3, Table: 1}},
	}
	for _, k := range cases {
		if got := k.part.cell(); !sameCell(got, k.want) {
			t.Errorf("%v: %v, want %v", k.part, got, k.want)
		}
	}
}

func TestNextTables(t *testing.T) {
	for lit := range literal(12) {
		inputs, table := nextTable(lit)
		values := bitSet{0}
		for value := range 2 {
			if value == 1 && lit.Var() != 0 {
				values.add(lit.Var())
			}
			x := 0
			for k, net := range inputs {
				if values.has(net) {
					x |= 1 << k
				}
			}
			if got := table>>x&1 == 1; got != values.holds(lit) {
				t.Errorf("literal %d: inputs %v, table %d: entry %d is %t", lit, inputs, table, x, got)
			}
		}
	}
}

func TestPartsInOrder(t *testing.T) {
	c := Circuit{Inputs: 1, Next: []int{12, 10, 1}, Gates: []Gate{{A: 2, B: 4}, {A: 3, B: 6}}}
	nets := []int{}
	registers := 0
	for _, part := range cellParts(c) {
		nets = append(nets, part.cell().Net)
		if _, ok := part.(registerCell); ok {
			registers++
		}
	}
	if !slices.Equal(nets, []int{2, 3, 4, 5, 6}) || registers != 3 {
		t.Errorf("nets %v, %d registers", nets, registers)
	}
}
