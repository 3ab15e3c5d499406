package tests

import (
	"fmt"
	"slices"
	"testing"

	"loop.example/fpgatoolchain/impl"
)

// beside returns the tile beside a tile that a source stands for.
func beside(tile int, source int) int {
	return tile + map[int]int{impl.DriveUp: -5, impl.DriveLeft: -1, impl.DriveRight: 1, impl.DriveDown: 5}[source]
}

// toward returns the source that stands for a neighbouring tile.
func toward(tile int, next int) int {
	return map[int]int{-5: impl.DriveUp, -1: impl.DriveLeft, 1: impl.DriveRight, 5: impl.DriveDown}[next-tile]
}

// wireTable holds what is known of the wires of a fabric.
type wireTable struct {
	known [25][8]bool
	value [25][8]bool
}

// table returns the output of the lookup table of a tile, and whether all that it reads is known.
func (w *wireTable) table(tile int, setting impl.TileConfig) (bool, bool) {
	table, size := setting.Table, 256
	// Every input decides which half of the entries is left, the last one first.
	for _, track := range slices.Backward(setting.Select) {
		root := map[int]int{256: 16, 16: 4, 4: 2}[size]
		if track == impl.NoTrack {
			table %= root
		} else if !w.known[tile][track] {
			return false, false
		} else if w.value[tile][track] {
			table /= root
		} else {
			table %= root
		}
		size = root
	}
	return table == 1, true
}

// wire returns the value of a wire, and whether it can be known already.
func (w *wireTable) wire(tile int, track int, setting impl.TileConfig, regs []bool, in []bool) (bool, bool) {
	source := setting.Drive[track]
	switch {
	case source == impl.DriveNone:
		return false, true
	case source == impl.DriveInput:
		return tile/5 < len(in) && in[tile/5], true
	case source == impl.DriveCell && setting.Register:
		return regs[tile], true
	case source == impl.DriveCell:
		return w.table(tile, setting)
	}
	next := beside(tile, source)
	return w.value[next][track], w.known[next][track]
}

// modelWireTable goes over all wires until nothing more is found out, and reports whether everything is known then. Wires that depend on themselves never are.
func modelWireTable(k impl.Config, regs []bool, in []bool) (wireTable, bool) {
	w := wireTable{}
	for changed := true; changed; {
		changed = false
		for tile, setting := range k.Tiles {
			for track := range 8 {
				value, known := w.wire(tile, track, setting, regs, in)
				if known && !w.known[tile][track] {
					w.known[tile][track], w.value[tile][track] = true, value
					changed = true
				}
			}
		}
	}
	whole := [8]bool{true, true, true, true, true, true, true, true}
	return w, !slices.ContainsFunc(w.known[:], func(tracks [8]bool) bool { return tracks != whole })
}

// modelFabricStep returns one clock cycle of a valid configuration, and whether the configuration is acyclic.
func modelFabricStep(k impl.Config, regs []bool, in []bool) (impl.FabricStep, bool) {
	w, ok := modelWireTable(k, regs, in)
	if !ok {
		return impl.FabricStep{}, false
	}
	step := impl.FabricStep{Next: impl.FabricState{Regs: make([]bool, 25)}}
	for o, pad := range k.Pads {
		value := pad.Track != impl.NoTrack && w.value[5*o+4][pad.Track]
		step.Outs = append(step.Outs, value != pad.Invert)
	}
	for tile, setting := range k.Tiles {
		if setting.Register {
			step.Next.Regs[tile], _ = w.table(tile, setting)
		}
	}
	return step, true
}

func sameStep(a impl.FabricStep, b impl.FabricStep) bool {
	return slices.Equal(a.Outs, b.Outs) && slices.Equal(a.Next.Regs, b.Next.Regs)
}

// set returns the state, or row, of so many values in which those with these numbers are 1.
func set(size int, ones ...int) []bool {
	values := make([]bool, size)
	for _, i := range ones {
		values[i] = true
	}
	return values
}

// allBut returns the values in which only those with these numbers are 0.
func allBut(size int, zeros ...int) []bool {
	values := set(size, zeros...)
	for i := range values {
		values[i] = !values[i]
	}
	return values
}

func stepOf(k impl.Config, regs []bool, in []bool) impl.FabricStep {
	return impl.StepFabric(k, impl.FabricState{Regs: regs}, in)
}

// checkStep requires that a step is what the model says.
func checkStep(t *testing.T, name string, k impl.Config, regs []bool, in []bool) impl.FabricStep {
	t.Helper()
	want, ok := modelFabricStep(k, regs, in)
	if got := stepOf(k, regs, in); !ok || !sameStep(got, want) {
		t.Fatalf("%s: flip-flops %v, inputs %v: %v, want %v, %v", name, regs, in, got, want, ok)
	}
	return want
}

func checkNoStep(t *testing.T, name string, k impl.Config, regs []bool, in []bool) {
	t.Helper()
	if got := stepOf(k, regs, in); !sameStep(got, impl.FabricStep{}) {
		t.Fatalf("%s: flip-flops %v, inputs %v: %v", name, regs, in, got)
	}
}

func checkNoRun(t *testing.T, name string, k impl.Config, rows [][]bool) {
	t.Helper()
	if got := impl.RunFabric(k, rows); len(got) != 0 {
		t.Fatalf("%s: run %v of %d rows", name, got, len(rows))
	}
}

func checkAcyclic(t *testing.T, name string, k impl.Config) {
	t.Helper()
	if !impl.ConfigAcyclic(k) {
		t.Fatalf("%s: not acyclic: %v", name, k)
	}
	checkStep(t, name, k, set(25), nil)
	checkStep(t, name, k, allBut(25), allBut(4))
}

// checkUnusable requires that a configuration is not acyclic, and that the fabric does nothing with it.
func checkUnusable(t *testing.T, name string, k impl.Config) {
	t.Helper()
	if impl.ConfigAcyclic(k) {
		t.Fatalf("%s: acyclic: %v", name, k)
	}
	checkNoStep(t, name, k, set(25), nil)
	checkNoStep(t, name, k, allBut(25), allBut(4))
	checkNoRun(t, name, k, [][]bool{nil, set(4)})
}

// checkCyclic requires that a valid configuration has a combinational cycle.
func checkCyclic(t *testing.T, name string, k impl.Config) {
	t.Helper()
	if !impl.ConfigValid(k) {
		t.Fatalf("%s: not valid: %v", name, k)
	}
	if _, ok := modelWireTable(k, set(25), nil); ok {
		t.Fatalf("%s: all wires of the model are known: %v", name, k)
	}
	checkUnusable(t, name, k)
}

// probe makes the flip-flop of a tile take the value of one of its wires.
func probe(k impl.Config, tile int, track int) {
	k.Tiles[tile].Table = 2
	k.Tiles[tile].Select = []int{track, 15, 15}
	k.Tiles[tile].Register = true
}

// checkProbe requires the next value of the flip-flop of a tile.
func checkProbe(t *testing.T, name string, k impl.Config, tile int, regs []bool, in []bool, want bool) {
	t.Helper()
	next := checkStep(t, name, k, regs, in).Next.Regs
	if got := stepOf(k, regs, in).Next.Regs[tile]; got != want || next[tile] != want {
		t.Fatalf("%s: flip-flops %v, inputs %v: flip-flop %d becomes %v, want %v", name, regs, in, tile, got, want)
	}
}

// forEveryWire calls f for every wire with a name and an empty configuration in which the tile takes the value of the wire.
func forEveryWire(f func(name string, k impl.Config, tile int, track int)) {
	for tile := range 25 {
		for track := range 8 {
			k := blank()
			probe(k, tile, track)
			f(fmt.Sprintf("tile %d, track %d", tile, track), k, tile, track)
		}
	}
}

func TestFabricReset(t *testing.T) {
	first, second := impl.FabricReset(), impl.FabricReset()
	if !slices.Equal(first.Regs, set(25)) {
		t.Errorf("%v", first)
	}
	spoil(first.Regs)
	if !slices.Equal(second.Regs, set(25)) || !slices.Equal(impl.FabricReset().Regs, set(25)) {
		t.Error("two states share memory")
	}
}

// somePatterns returns states of the fabric: none, all, every single and all but one of the flip-flops, and mixed ones.
func somePatterns() [][]bool {
	list := [][]bool{set(25), allBut(25)}
	for tile := range 25 {
		list = append(list, set(25, tile), allBut(25, tile))
	}
	for i := range 10 {
		list = append(list, bitsOf(i*i*7919+i*104729, 25))
	}
	return list
}

// Promise 57.
func TestEmptyFabric(t *testing.T) {
	for _, k := range []impl.Config{blank(), impl.EmptyConfig()} {
		checkAcyclic(t, "empty", k)
		for _, regs := range somePatterns() {
			for x := range 16 {
				for n := range 5 {
					want := impl.FabricStep{Outs: set(3), Next: impl.FabricState{Regs: set(25)}}
					if got := stepOf(k, regs, bitsOf(x, 4)[:n]); !sameStep(got, want) {
						t.Fatalf("flip-flops %v, input %d: %v", regs, x, got)
					}
				}
			}
		}
		rows := slices.Repeat([][]bool{nil, allBut(4), allBut(1), set(2)}, 10)
		if got := impl.RunFabric(k, rows); !sameRows(got, slices.Repeat([][]bool{set(3)}, 40)) {
			t.Errorf("run %v", got)
		}
	}
}

// Promise 57: without a source the value is 0, whatever all other wires and flip-flops are.
func TestWiresWithoutSource(t *testing.T) {
	forEveryWire(func(name string, k impl.Config, tile int, track int) {
		for other := range 25 {
			k.Tiles[other].Drive = slices.Repeat([]int{impl.DriveCell}, 8)
			k.Tiles[other].Register = true
		}
		checkProbe(t, name, k, tile, allBut(25), allBut(4), true)
		k.Tiles[tile].Drive[track] = impl.DriveNone
		checkProbe(t, name, k, tile, allBut(25), allBut(4), false)
	})
}

// Promise 57: the wire has the value before the clock cycle.
func TestWiresOfRegisteredCells(t *testing.T) {
	forEveryWire(func(name string, k impl.Config, tile int, track int) {
		k.Tiles[tile].Drive[track] = impl.DriveCell
		checkProbe(t, name, k, tile, set(25, tile), nil, true)
		checkProbe(t, name, k, tile, allBut(25, tile), allBut(4), false)
		k.Tiles[tile].Table = 1
		checkProbe(t, name+", inverted", k, tile, set(25, tile), nil, false)
		checkProbe(t, name+", inverted", k, tile, allBut(25, tile), allBut(4), true)
	})
}

// Promise 57: the flip-flop of the tile does not matter. The wire is read in a neighbouring tile.
func TestWiresOfUnregisteredCells(t *testing.T) {
	for tile := range 25 {
		for _, source := range []int{impl.DriveUp, impl.DriveLeft, impl.DriveRight, impl.DriveDown} {
			if !isSource(tile)(source) {
				continue
			}
			for track := range 8 {
				k, reader := blank(), beside(tile, source)
				probe(k, reader, track)
				k.Tiles[reader].Drive[track] = toward(reader, tile)
				k.Tiles[tile].Drive[track] = impl.DriveCell
				for _, table := range []int{0x01, 0xfe, 0x00, 0xff, 0x55} {
					k.Tiles[tile].Table = table
					name := fmt.Sprintf("tile %d, track %d, table %d", tile, track, table)
					checkProbe(t, name, k, reader, set(25, tile), allBut(4), table%2 == 1)
					checkProbe(t, name, k, reader, allBut(25, tile), nil, table%2 == 1)
				}
			}
		}
	}
}

// Promise 57: of the neighbour, only the wire on the same track counts.
func TestWiresOfNeighbours(t *testing.T) {
	forEveryWire(func(name string, k impl.Config, tile int, track int) {
		for _, source := range []int{impl.DriveUp, impl.DriveLeft, impl.DriveRight, impl.DriveDown} {
			if !isSource(tile)(source) {
				continue
			}
			name, next := fmt.Sprintf("%s, source %d", name, source), beside(tile, source)
			k.Tiles[tile].Drive[track] = source
			k.Tiles[next].Register = true
			k.Tiles[next].Drive[track] = impl.DriveCell
			checkProbe(t, name, k, tile, set(25, next), nil, true)
			checkProbe(t, name, k, tile, allBut(25, next), allBut(4), false)
			k.Tiles[next].Drive = slices.Repeat([]int{impl.DriveCell}, 8)
			k.Tiles[next].Drive[track] = impl.DriveNone
			checkProbe(t, name+", the other tracks", k, tile, allBut(25), allBut(4), false)
			k.Tiles[next] = unused()
		}
	})
}

// Promise 57: an input that is not given is 0.
func TestWiresOfInputs(t *testing.T) {
	for row := range 4 {
		for track := range 8 {
			k, name := blank(), fmt.Sprintf("row %d, track %d", row, track)
			probe(k, 5*row, track)
			k.Tiles[5*row].Drive[track] = impl.DriveInput
			checkProbe(t, name, k, 5*row, set(25), set(4, row), true)
			checkProbe(t, name, k, 5*row, allBut(25), allBut(4, row), false)
			for n := range 5 {
				checkProbe(t, name, k, 5*row, set(25), allBut(n), row < n)
			}
			checkProbe(t, name, k, 5*row, allBut(25), nil, false)
			// What lies behind the inputs is not given.
			checkProbe(t, name, k, 5*row, allBut(25), allBut(4)[:row], false)
		}
	}
}

// tableReader returns a configuration in which the lookup table of tile 12 can read the flip-flops above, on the left, and on the right, on the tracks 1, 4 and 6. Tile 17 takes its output.
func tableReader(table int, register bool, selectors ...int) impl.Config {
	k := blank()
	for tile, track := range map[int]int{7: 1, 11: 4, 13: 6} {
		k.Tiles[tile].Register = true
		k.Tiles[tile].Drive[track] = impl.DriveCell
	}
	k.Tiles[12] = tileOf(table, selectors[0], selectors[1], selectors[2], register, 0, impl.DriveUp, impl.DriveCell, 0, impl.DriveLeft, 0, impl.DriveRight, 0)
	probe(k, 17, 2)
	k.Tiles[17].Drive[2] = impl.DriveUp
	return k
}

// readerState returns the state in which the three flip-flops that tile 12 can read are the bits of x.
func readerState(x int) []bool {
	regs := set(25)
	regs[7], regs[11], regs[13] = x&1 == 1, x&2 == 2, x&4 == 4
	return regs
}

// Promise 57: bit x of the table, in the flip-flop of the tile if it is registered, and on its wire otherwise.
func TestEntriesOfLookupTables(t *testing.T) {
	for table := range 256 {
		registered, plain := tableReader(table, true, 1, 4, 6), tableReader(table, false, 1, 4, 6)
		for x := range 8 {
			want := table>>x&1 == 1
			checkProbe(t, fmt.Sprint("table ", table), registered, 12, readerState(x), nil, want)
			checkProbe(t, fmt.Sprint("table ", table), registered, 17, readerState(x), nil, false)
			checkProbe(t, fmt.Sprint("table ", table), plain, 17, readerState(x), nil, want)
			checkProbe(t, fmt.Sprint("table ", table), plain, 12, readerState(x), nil, false)
		}
	}
}

// Promise 57: every input of a lookup table reads what it selects, in any order, repeatedly, or nothing.
func TestSelectorsOfLookupTables(t *testing.T) {
	bits := map[int]int{1: 0, 4: 1, 6: 2}
	tracks := []int{1, 4, 6, 15, 3}
	for i := range 125 {
		selectors := []int{tracks[i%5], tracks[i/5%5], tracks[i/25]}
		for n, table := range []int{0xaa, 0xcc, 0xf0} {
			k := tableReader(table, true, selectors...)
			for x := range 8 {
				bit, connected := bits[selectors[n]]
				want := connected && x>>bit&1 == 1
				checkProbe(t, fmt.Sprintf("selectors %v, input %d", selectors, n), k, 12, readerState(x), nil, want)
			}
		}
	}
}

// Promise 57: every input can read every track, and without one it reads 0.
func TestTracksOfLookupTables(t *testing.T) {
	forEveryWire(func(name string, k impl.Config, tile int, track int) {
		next := tile + 1
		if tile%5 == 4 {
			next = tile - 1
		}
		k.Tiles[next].Register = true
		k.Tiles[next].Drive = slices.Repeat([]int{impl.DriveCell}, 8)
		k.Tiles[tile].Drive = slices.Repeat([]int{toward(tile, next)}, 8)
		k.Tiles[tile].Drive[track] = impl.DriveNone
		for n := range 3 {
			for other := range 8 {
				k.Tiles[tile].Select = []int{15, 15, 15}
				k.Tiles[tile].Select[n] = other
				k.Tiles[tile].Table = []int{0xaa, 0xcc, 0xf0}[n]
				if got := stepOf(k, set(25, next), nil).Next.Regs[tile]; got != (other != track) {
					t.Fatalf("%s: input %d reads %v on track %d", name, n, got, other)
				}
			}
			k.Tiles[tile].Select[n] = impl.NoTrack
			if stepOf(k, allBut(25), allBut(4)).Next.Regs[tile] {
				t.Fatalf("%s: input %d reads 1 without a track", name, n)
			}
		}
	})
}

// Promise 57: without a register the flip-flop becomes 0, whatever it was and whatever the lookup table says.
func TestFlipFlops(t *testing.T) {
	for tile := range 25 {
		for table := range 256 {
			k := blank()
			k.Tiles[tile].Table = table
			for _, regs := range [][]bool{set(25), allBut(25), set(25, tile)} {
				if got := stepOf(k, regs, nil); !slices.Equal(got.Next.Regs, set(25)) {
					t.Fatalf("tile %d, table %d: %v", tile, table, got)
				}
			}
			k.Tiles[tile].Register = true
			want := set(25)
			want[tile] = table%2 == 1
			if got := stepOf(k, allBut(25, tile), nil); !slices.Equal(got.Next.Regs, want) {
				t.Fatalf("tile %d, table %d, registered: %v", tile, table, got)
			}
		}
	}
}

// All flip-flops of the fabric in one step: those of the registered tiles are inverted, the others become 0.
func TestAllFlipFlopsAtOnce(t *testing.T) {
	for _, registered := range somePatterns() {
		k := blank()
		for tile := range 25 {
			k.Tiles[tile] = tileOf(0x55, tile%8, 15, 15, registered[tile], 1, 1, 1, 1, 1, 1, 1, 1)
			if !registered[tile] {
				k.Tiles[tile] = tileOf(0xff, 15, 15, 15, false, 0, 0, 0, 0, 0, 0, 0, 0)
			}
		}
		for _, regs := range somePatterns() {
			want := set(25)
			for tile := range want {
				want[tile] = registered[tile] && !regs[tile]
			}
			if got := stepOf(k, regs, nil); !slices.Equal(got.Next.Regs, want) {
				t.Fatalf("registered %v, flip-flops %v: %v", registered, regs, got)
			}
		}
	}
}

// Promise 57: a pad reads its track in the last tile of its row.
func TestPads(t *testing.T) {
	for o := range 3 {
		for track := range 8 {
			for _, invert := range []bool{false, true} {
				k, name := blank(), fmt.Sprintf("pad %d, track %d, inverted %v", o, track, invert)
				for tile := range 25 {
					k.Tiles[tile].Register = true
					k.Tiles[tile].Drive[track] = impl.DriveCell
				}
				k.Pads[o] = impl.PadConfig{Track: track, Invert: invert}
				for tile := range 25 {
					want := set(3)
					want[o] = (tile == 5*o+4) != invert
					if got := checkStep(t, name, k, set(25, tile), nil); !slices.Equal(got.Outs, want) {
						t.Fatalf("%s, flip-flop %d: %v", name, tile, got.Outs)
					}
				}
				k.Tiles[5*o+4].Drive = slices.Repeat([]int{impl.DriveCell}, 8)
				k.Tiles[5*o+4].Drive[track] = impl.DriveNone
				want := set(3)
				want[o] = invert
				if got := stepOf(k, allBut(25), allBut(4)); !slices.Equal(got.Outs, want) {
					t.Fatalf("%s, without a source: %v", name, got.Outs)
				}
			}
		}
	}
}

// Promise 57: without a track a pad is 0, or 1 if it is inverted.
func TestPadsWithoutTrack(t *testing.T) {
	for inverted := range 8 {
		k := blank()
		for tile := range 25 {
			k.Tiles[tile] = tileOf(0xff, 15, 15, 15, true, 1, 1, 1, 1, 1, 1, 1, 1)
		}
		for o := range 3 {
			k.Pads[o].Invert = inverted>>o&1 == 1
		}
		for _, regs := range [][]bool{set(25), allBut(25)} {
			if got := stepOf(k, regs, allBut(4)); !slices.Equal(got.Outs, bitsOf(inverted, 3)) {
				t.Errorf("inverted %d: %v", inverted, got.Outs)
			}
		}
		if got := impl.RunFabric(k, [][]bool{nil, nil}); !sameRows(got, [][]bool{bitsOf(inverted, 3), bitsOf(inverted, 3)}) {
			t.Errorf("inverted %d: run %v", inverted, got)
		}
	}
}

// rowPassing passes the inputs 0 to 2 along their rows to the pads, and input 3 to a track of the first row that no pad reads.
func rowPassing() impl.Config {
	k := blank()
	for row := range 3 {
		k.Tiles[5*row].Drive[row+2] = impl.DriveInput
		for column := 1; column < 5; column++ {
			k.Tiles[5*row+column].Drive[row+2] = impl.DriveLeft
		}
		k.Pads[row] = impl.PadConfig{Track: row + 2}
	}
	k.Tiles[15].Drive[7] = impl.DriveInput
	for tile := range 3 {
		k.Tiles[5*tile].Drive[7] = impl.DriveDown
	}
	for tile := 1; tile < 5; tile++ {
		k.Tiles[tile].Drive[7] = impl.DriveLeft
	}
	return k
}

// lastInput is rowPassing with the first pad reading input 3.
func lastInput() impl.Config {
	k := rowPassing()
	k.Pads[0].Track = 7
	return k
}

// adder adds three inputs: the carry is on pad 0, the sum on pad 1; pad 2 is constant 1. The three inputs meet in tile 5, from where they go on to tile 6.
func adder() impl.Config {
	k := blank()
	k.Tiles[0] = tileOf(0, 15, 15, 15, false, 6, 0, 0, 0, 0, 0, 0, 0)
	k.Tiles[10] = tileOf(0, 15, 15, 15, false, 0, 0, 6, 0, 0, 0, 0, 0)
	k.Tiles[5] = tileOf(0x96, 0, 1, 2, false, 2, 6, 5, 1, 0, 0, 0, 0)
	k.Tiles[6] = tileOf(0xe8, 0, 1, 2, false, 3, 3, 3, 3, 1, 0, 0, 0)
	k.Tiles[1] = tileOf(0, 15, 15, 15, false, 0, 0, 0, 0, 5, 0, 0, 0)
	for column := 2; column < 5; column++ {
		k.Tiles[column].Drive[4] = impl.DriveLeft
		k.Tiles[5+column].Drive[3] = impl.DriveLeft
	}
	k.Pads = []impl.PadConfig{{Track: 4}, {Track: 3}, {Track: 15, Invert: true}}
	return k
}

// delayLine has a flip-flop in each of the first four tiles, so that the output is the input of four cycles before; the pad below shows it inverted.
func delayLine() impl.Config {
	k := blank()
	k.Tiles[0] = tileOf(2, 0, 15, 15, true, 6, 1, 0, 0, 0, 0, 0, 0)
	k.Tiles[1] = tileOf(4, 15, 1, 15, true, 0, 3, 1, 0, 0, 0, 0, 0)
	k.Tiles[2] = tileOf(16, 15, 15, 2, true, 0, 0, 3, 1, 0, 0, 0, 0)
	k.Tiles[3] = tileOf(8, 3, 3, 15, true, 0, 0, 0, 3, 1, 0, 0, 0)
	k.Tiles[4].Drive[4] = impl.DriveLeft
	k.Tiles[9].Drive[4] = impl.DriveUp
	k.Pads[0] = impl.PadConfig{Track: 4}
	k.Pads[1] = impl.PadConfig{Track: 4, Invert: true}
	return k
}

// twistedRing has three flip-flops in the tiles 4, 9 and 14, each of which is on a pad; the first takes the complement of the last.
func twistedRing() impl.Config {
	k := blank()
	k.Tiles[4] = tileOf(1, 2, 15, 15, true, 1, 0, 5, 0, 0, 0, 0, 0)
	k.Tiles[9] = tileOf(2, 0, 15, 15, true, 2, 1, 5, 0, 0, 0, 0, 0)
	k.Tiles[14] = tileOf(2, 1, 15, 15, true, 0, 2, 1, 0, 0, 0, 0, 0)
	k.Pads = []impl.PadConfig{{Track: 0}, {Track: 1}, {Track: 2}}
	return k
}

// fabricCase is a configuration with rows of inputs and of outputs.
type fabricCase struct {
	name string
	k    impl.Config
	rows [][]bool
	want [][]bool
}

// rowsOf reads rows that are written as digits, divided by blanks; a dash is an empty row.
func rowsOf(text string) [][]bool {
	rows, row := [][]bool{}, []bool{}
	for _, c := range text + " " {
		switch c {
		case ' ':
			rows, row = append(rows, row), []bool{}
		case '0', '1':
			row = append(row, c == '1')
		}
	}
	return rows
}

// fabricCases are written out wire by wire.
func fabricCases() []fabricCase {
	invertedPads := counterConfig()
	for o := range invertedPads.Pads {
		invertedPads.Pads[o].Invert = true
	}
	return []fabricCase{
		{"counter", counterConfig(), rowsOf("1 1 0 1 1 1"), rowsOf("000 100 000 000 100 000")},
		{"counter with missing inputs", counterConfig(), rowsOf("1 - 01 1000 - 1111 0 1 0"), rowsOf("000 100 100 100 000 000 100 100 000")},
		{"counter with inverted pads", invertedPads, rowsOf("1 1 0 1 1 1"), rowsOf("111 011 111 111 011 111")},
		{"passing", rowPassing(), rowsOf("0000 1000 0100 0010 0001 1111 101 11 1 -"), rowsOf("000 100 010 001 000 111 101 110 100 000")},
		{"last input", lastInput(), rowsOf("0000 1000 0100 0010 0001 1111 101 11 1 -"), rowsOf("000 000 010 001 100 111 001 010 000 000")},
		{"adder", adder(), rowsOf("000 001 010 011 100 101 110 111"), rowsOf("001 011 011 101 011 101 101 111")},
		{"adder with missing inputs", adder(), rowsOf("- 1 11 0001 1111"), rowsOf("001 011 101 001 111")},
		{"delay line", delayLine(), rowsOf("1 0 1 1 - 0 1 0 0 1"), rowsOf("010 010 010 010 100 010 100 100 010 010")},
		{"twisted ring", twistedRing(), rowsOf("- - 1111 - 0 - - -"), rowsOf("000 100 110 111 011 001 000 100")},
	}
}

// checkFabricRun requires promise 58: the run is what the steps from FabricReset yield, and that of every prefix is a prefix of it. The model follows the same states.
func checkFabricRun(t *testing.T, name string, k impl.Config, rows [][]bool) [][]bool {
	t.Helper()
	outs := impl.RunFabric(k, rows)
	if len(outs) != len(rows) {
		t.Fatalf("%s: %d rows of outputs for %d rows of inputs", name, len(outs), len(rows))
	}
	state := impl.FabricReset()
	for i, row := range rows {
		step := impl.StepFabric(k, state, row)
		if want, ok := modelFabricStep(k, state.Regs, row); !ok || !sameStep(step, want) {
			t.Fatalf("%s, cycle %d: %v, want %v, %v", name, i, step, want, ok)
		}
		if !slices.Equal(outs[i], step.Outs) {
			t.Fatalf("%s, cycle %d: outputs %v of the run, %v of the step", name, i, outs[i], step.Outs)
		}
		if prefix := impl.RunFabric(k, rows[:i]); !sameRows(prefix, outs[:i]) {
			t.Fatalf("%s: run of %d rows %v, of all rows %v", name, i, prefix, outs)
		}
		state = step.Next
	}
	return outs
}

// Promises 57 and 58.
func TestKnownFabricRuns(t *testing.T) {
	for _, k := range fabricCases() {
		checkAcyclic(t, k.name, k.k)
		if got := checkFabricRun(t, k.name, k.k, k.rows); !sameRows(got, k.want) {
			t.Errorf("%s: %v, want %v", k.name, got, k.want)
		}
	}
}

// The states that the counter passes through: only the flip-flop in tile 1 is used.
func TestStepsOfTheCounter(t *testing.T) {
	k := counterConfig()
	for _, regs := range somePatterns() {
		for x := range 2 {
			want := impl.FabricStep{Outs: []bool{regs[1], false, false}, Next: impl.FabricState{Regs: set(25)}}
			want.Next.Regs[1] = regs[1] != (x == 1)
			if got := stepOf(k, regs, bitsOf(x, 1)); !sameStep(got, want) {
				t.Errorf("flip-flops %v, input %d: %v", regs, x, got)
			}
		}
	}
}

// Two flip-flops that read each other change places: none of them is updated before the other.
func TestExchangeOfFlipFlops(t *testing.T) {
	for tile := range 25 {
		for _, source := range []int{impl.DriveRight, impl.DriveDown} {
			if !isSource(tile)(source) {
				continue
			}
			k, next := blank(), beside(tile, source)
			k.Tiles[tile] = tileOf(2, 5, 15, 15, true, 0, 0, 0, 0, impl.DriveCell, source, 0, 0)
			k.Tiles[next] = tileOf(2, 4, 15, 15, true, 0, 0, 0, 0, toward(next, tile), impl.DriveCell, 0, 0)
			for x := range 4 {
				regs, want := set(25), set(25)
				regs[tile], regs[next] = x&1 == 1, x&2 == 2
				want[tile], want[next] = regs[next], regs[tile]
				if got := stepOf(k, regs, nil); !slices.Equal(got.Next.Regs, want) {
					t.Errorf("tiles %d and %d: %v becomes %v", tile, next, regs, got.Next.Regs)
				}
			}
		}
	}
}

// snake returns all tiles, each beside the one before it.
func snake() []int {
	tiles := []int{}
	for row := range 5 {
		line := []int{5 * row, 5*row + 1, 5*row + 2, 5*row + 3, 5*row + 4}
		if row%2 == 1 {
			slices.Reverse(line)
		}
		tiles = append(tiles, line...)
	}
	return tiles
}

// A shift register of all tiles.
func TestLongShiftRegister(t *testing.T) {
	k, tiles := blank(), snake()
	for i, tile := range tiles {
		// The tiles use two tracks by turns, one for what they read and one for what they drive.
		track := i % 2
		k.Tiles[tile] = tileOf(0xaa, track, 15, 15, true, 0, 0, 0, 0, 0, 0, 0, 0)
		k.Tiles[tile].Drive[1-track] = impl.DriveCell
		k.Tiles[tile].Drive[track] = impl.DriveInput
		if i > 0 {
			k.Tiles[tile].Drive[track] = toward(tile, tiles[i-1])
		}
	}
	checkAcyclic(t, "shift register", k)
	regs, expected := bitsOf(0x1b3c5a7, 25), bitsOf(0x1b3c5a7, 25)
	for i := range 40 {
		in := i%3 == 0
		for n := 24; n > 0; n-- {
			expected[tiles[n]] = expected[tiles[n-1]]
		}
		expected[0] = in
		regs = checkStep(t, "shift register", k, regs, []bool{in}).Next.Regs
		if !slices.Equal(regs, expected) {
			t.Fatalf("cycle %d: %v, want %v", i, regs, expected)
		}
	}
}

// rings returns lists of tiles in which every tile is beside the one before it, and the first beside the last: all pairs, all squares of four in both directions, the border, and as many tiles as possible.
func rings() [][]int {
	border := []int{0, 1, 2, 3, 4, 9, 14, 19, 24, 23, 22, 21, 20, 15, 10, 5}
	longest := []int{0, 1, 2, 3, 4, 9, 14, 19, 24, 23, 18, 13, 8, 7, 12, 17, 22, 21, 20, 15, 16, 11, 10, 5}
	list := [][]int{border, reversed(border), longest, reversed(longest)}
	for tile := range 25 {
		right, down := tile%5 < 4, tile < 20
		if right {
			list = append(list, []int{tile, tile + 1})
		}
		if down {
			list = append(list, []int{tile, tile + 5})
		}
		if right && down {
			square := []int{tile, tile + 1, tile + 6, tile + 5}
			list = append(list, square, reversed(square))
		}
	}
	return list
}

// driveRing drives the wires of a ring on one track by each other.
func driveRing(k impl.Config, ring []int, track int) {
	for i, tile := range ring {
		before := ring[(i+len(ring)-1)%len(ring)]
		k.Tiles[tile].Drive[track] = toward(tile, before)
	}
}

// Wires that drive each other in a ring have no value: the configuration is valid, but not acyclic.
func TestRingsOfWires(t *testing.T) {
	for _, ring := range rings() {
		for track := range 8 {
			k := blank()
			driveRing(k, ring, track)
			checkCyclic(t, fmt.Sprintf("ring %v, track %d", ring, track), k)
		}
	}
}

// A ring is no cycle if the wire of one of its tiles has another source, unless that leads back to the wire itself.
func TestOpenedRings(t *testing.T) {
	for i, ring := range rings() {
		track := i % 8
		for _, tile := range ring {
			name, k := fmt.Sprintf("ring %v opened at %d", ring, tile), blank()
			driveRing(k, ring, track)
			k.Tiles[tile].Drive[track] = impl.DriveNone
			checkAcyclic(t, name, k)
			k.Tiles[tile].Drive[track] = impl.DriveCell
			k.Tiles[tile].Select[i%3] = (track + 1) % 8
			checkAcyclic(t, name+" by a cell", k)
			k.Tiles[tile].Select[(i+1)%3] = track
			checkCyclic(t, name+" by a cell that reads it", k)
			k.Tiles[tile].Register = true
			checkAcyclic(t, name+" by a registered cell", k)
		}
	}
}

// One ring is enough, whichever it is, and whatever else the fabric does; nothing needs to read it.
func TestCyclesThatNothingReads(t *testing.T) {
	for _, c := range fabricCases() {
		for track := range 8 {
			k := copyConfig(c.k)
			driveRing(k, []int{21, 22}, track)
			checkCyclic(t, c.name, k)
			checkNoRun(t, c.name, k, c.rows)
			k.Tiles[22].Drive[track] = impl.DriveNone
			checkAcyclic(t, c.name, k)
			if got := impl.RunFabric(k, c.rows); !sameRows(got, c.want) {
				t.Fatalf("%s, beside other wires: %v", c.name, got)
			}
		}
	}
}

// Two wires that pass each other on different tracks are no cycle.
func TestOppositeWires(t *testing.T) {
	for _, ring := range rings() {
		for track := range 8 {
			k, a, b := blank(), ring[0], ring[1]
			k.Tiles[a].Drive[track] = toward(a, b)
			k.Tiles[b].Drive[(track+1)%8] = toward(b, a)
			checkAcyclic(t, fmt.Sprintf("tiles %d and %d, track %d", a, b, track), k)
		}
	}
}

// A lookup table that reads what its own cell drives is a cycle whatever is in the table, but for a registered tile; a table whose output drives no wire is none.
func TestTilesThatReadThemselves(t *testing.T) {
	forEveryWire(func(name string, k impl.Config, tile int, track int) {
		for n := range 3 {
			for _, table := range []int{0, 0x55, 0xff} {
				k.Tiles[tile] = tileOf(table, 15, 15, 15, false, 0, 0, 0, 0, 0, 0, 0, 0)
				k.Tiles[tile].Select[n] = track
				checkAcyclic(t, name+", not driven", k)
				k.Tiles[tile].Drive[(track+3)%8] = impl.DriveCell
				checkAcyclic(t, name+", another track driven", k)
				k.Tiles[tile].Drive[track] = impl.DriveCell
				checkCyclic(t, fmt.Sprintf("%s, input %d, table %d", name, n, table), k)
				k.Tiles[tile].Register = true
				checkAcyclic(t, name+", registered", k)
			}
		}
	})
}

// driveTables makes every lookup table of a ring read the one before it, on two tracks by turns; a ring of tiles has an even number of them.
func driveTables(k impl.Config, ring []int) {
	driveRing(k, ring, 3)
	driveRing(k, ring, 6)
	for i, tile := range ring {
		read, drive := 3, 6
		if i%2 == 1 {
			read, drive = 6, 3
		}
		k.Tiles[tile].Table = 0x55
		k.Tiles[tile].Select[0] = read
		k.Tiles[tile].Drive[drive] = impl.DriveCell
	}
}

// Cycles through lookup tables are none if one of them is registered, whichever it is.
func TestRingsOfLookupTables(t *testing.T) {
	for _, ring := range rings() {
		k, name := blank(), fmt.Sprintf("lookup tables %v", ring)
		driveTables(k, ring)
		checkCyclic(t, name, k)
		for _, tile := range ring {
			k.Tiles[tile].Register = true
			checkAcyclic(t, fmt.Sprintf("%s, %d registered", name, tile), k)
			k.Tiles[tile].Register = false
			k.Tiles[tile].Select[0] = impl.NoTrack
			checkAcyclic(t, fmt.Sprintf("%s, %d reads nothing", name, tile), k)
			driveTables(k, ring)
			for n := 1; n < 3; n++ {
				k.Tiles[tile].Select[n], k.Tiles[tile].Select[0] = k.Tiles[tile].Select[0], impl.NoTrack
				checkCyclic(t, fmt.Sprintf("%s, %d reads with input %d", name, tile, n), k)
				k.Tiles[tile].Select[0], k.Tiles[tile].Select[n] = k.Tiles[tile].Select[n], impl.NoTrack
			}
		}
		for _, tile := range ring {
			k.Tiles[tile].Register = true
		}
		checkAcyclic(t, name+", all registered", k)
	}
}

// driveChain drives the wires of a list of tiles, each beside the one before it, by each other, on one track; the first has no source yet.
func driveChain(k impl.Config, tiles []int, track int) {
	for i, tile := range tiles[1:] {
		k.Tiles[tile].Drive[track] = toward(tile, tiles[i])
	}
}

// windings is one chain of 179 wires from the first input to the flip-flop of tile 3: along all tiles on track 0, back on track 1, and so on, from track 2 on shorter each time. Where it turns there is an inverter between the two tracks.
func windings() impl.Config {
	k, tiles := blank(), snake()
	// The places in the snake where the chain turns; there are seven inverters.
	turns := []int{0, 24, 0, 23, 1, 22, 2, 21, 3}
	for track := range 8 {
		from, to := turns[track], turns[track+1]
		part := slices.Clone(tiles[min(from, to) : max(from, to)+1])
		if from > to {
			slices.Reverse(part)
		}
		driveChain(k, part, track)
		start := &k.Tiles[part[0]]
		if track == 0 {
			start.Drive[0] = impl.DriveInput
			continue
		}
		start.Table = 0x55
		start.Select[0] = track - 1
		start.Drive[track] = impl.DriveCell
	}
	probe(k, 3, 7)
	return k
}

func TestLongChains(t *testing.T) {
	k := windings()
	checkAcyclic(t, "windings", k)
	for _, in := range []bool{false, true} {
		checkProbe(t, "windings", k, 3, set(25), []bool{in}, !in)
		checkProbe(t, "windings", k, 3, allBut(25), []bool{in, true, true, true}, !in)
	}
	// On the same track the chain goes on to tile 0, where it does no harm until the inverter there reads it.
	driveChain(k, []int{3, 2, 1, 0}, 7)
	checkAcyclic(t, "windings back to tile 0", k)
	k.Tiles[0].Select[2] = 7
	checkCyclic(t, "closed windings", k)
	k.Tiles[0].Select[2] = 1
	checkAcyclic(t, "windings, with a track that is read twice", k)
}

// manyPaths is a chain of all lookup tables, each of which reads three wires that the one before it drives, so that there are more paths than can be followed one by one. The flip-flop of tile 24 takes the output of the last one.
func manyPaths(table int) impl.Config {
	k, tiles := blank(), snake()
	for i, tile := range tiles {
		source := impl.DriveInput
		if i > 0 {
			source = toward(tile, tiles[i-1])
		}
		own := impl.DriveCell
		if i%2 == 0 {
			k.Tiles[tile] = tileOf(table, 0, 1, 2, false, source, source, source, own, own, own, 0, 0)
		} else {
			k.Tiles[tile] = tileOf(table, 3, 4, 5, false, own, own, own, source, source, source, 0, 0)
		}
	}
	k.Tiles[24].Register = true
	return k
}

func TestManyPaths(t *testing.T) {
	// Three equal values are passed on by the first table, inverted by the second.
	for _, table := range []int{0x96, 0x69} {
		k, name := manyPaths(table), fmt.Sprintf("many paths, table %d", table)
		checkAcyclic(t, name, k)
		for _, in := range []bool{false, true} {
			checkProbe(t, name, k, 24, set(25), []bool{in}, in != (table == 0x69))
		}
		outs := impl.RunFabric(k, slices.Repeat([][]bool{{true}, {false}}, 20))
		if !sameRows(outs, slices.Repeat([][]bool{set(3)}, 40)) {
			t.Errorf("%s: run %v", name, outs)
		}
		// Tile 5 is the tenth of the chain.
		k.Tiles[0].Drive[1] = impl.DriveDown
		checkCyclic(t, name+", and a cycle", k)
		k.Tiles[8].Register = true
		checkAcyclic(t, name+", and a flip-flop", k)
	}
}

// Promise 57: an invalid configuration does nothing.
func TestInvalidConfigsOfTheFabric(t *testing.T) {
	for _, k := range invalidConfigs() {
		checkUnusable(t, k.name, k.k)
	}
}

// A wire that leads out of the fabric is no end of a chain but an error.
func TestWiresFromOutside(t *testing.T) {
	forEveryWire(func(name string, k impl.Config, tile int, track int) {
		for source := -1; source < 8; source++ {
			k.Tiles[tile].Drive[track] = source
			if isSource(tile)(source) {
				checkAcyclic(t, name, k)
			} else {
				checkUnusable(t, fmt.Sprintf("%s, source %d", name, source), k)
			}
		}
	})
}

// usableConfigs returns acyclic configurations, and the empty one.
func usableConfigs() []namedConfig {
	list := []namedConfig{{"empty", blank()}, {"windings", windings()}, {"many paths", manyPaths(0x69)}}
	for _, k := range fabricCases() {
		list = append(list, namedConfig{k.name, k.k})
	}
	return list
}

func TestSizesOfStates(t *testing.T) {
	for _, k := range usableConfigs() {
		checkNoStep(t, k.name, k.k, nil, nil)
		checkNoStep(t, k.name, k.k, nil, set(4))
		for n := range 80 {
			regs := allBut(n)
			if n == 25 {
				checkStep(t, k.name, k.k, regs, nil)
				continue
			}
			checkNoStep(t, k.name, k.k, regs, nil)
			checkNoStep(t, k.name, k.k, set(n), allBut(4))
			// What lies behind the values is not part of the state.
			checkNoStep(t, k.name, k.k, append(regs, allBut(25)...)[:n], nil)
		}
		for _, n := range []int{256, 256 + 25, 1<<16 + 25} {
			checkNoStep(t, k.name, k.k, set(n), nil)
		}
		checkStep(t, k.name, k.k, allBut(40)[:25], nil)
	}
}

func TestNumbersOfFabricInputs(t *testing.T) {
	for _, k := range usableConfigs() {
		for n := range 30 {
			for _, in := range [][]bool{set(n), allBut(n), append(set(n), allBut(9)...)[:n]} {
				if n <= 4 {
					checkStep(t, k.name, k.k, allBut(25), in)
					checkFabricRun(t, k.name, k.k, [][]bool{in})
				} else {
					checkNoStep(t, k.name, k.k, allBut(25), in)
					checkNoStep(t, k.name, k.k, allBut(24), in)
					checkNoRun(t, k.name, k.k, [][]bool{in})
				}
			}
		}
		for _, n := range []int{256, 256 + 4, 1<<16 + 1} {
			checkNoStep(t, k.name, k.k, set(25), set(n))
			checkNoRun(t, k.name, k.k, [][]bool{set(n)})
		}
	}
}

// fabricRows returns so many rows, with from none to four values.
func fabricRows(n int) [][]bool {
	rows := [][]bool{}
	for i := range n {
		rows = append(rows, bitsOf(i*i+i/3, 4)[:4-i*7%11%5])
	}
	return rows
}

// Promise 58.
func TestNumbersOfFabricRows(t *testing.T) {
	for _, k := range usableConfigs() {
		checkNoRun(t, k.name, k.k, nil)
		checkNoRun(t, k.name, k.k, [][]bool{})
		checkFabricRun(t, k.name, k.k, fabricRows(40))
		checkFabricRun(t, k.name, k.k, make([][]bool, 40))
		for _, n := range []int{41, 42, 80, 256, 256 + 40, 1<<16 + 1} {
			checkNoRun(t, k.name, k.k, make([][]bool, n))
			checkNoRun(t, k.name, k.k, fabricRows(n))
		}
		// What lies behind the rows is not part of them.
		checkFabricRun(t, k.name, k.k, append(fabricRows(45), allBut(5))[:40])
	}
}

func TestLongRowsAnywhere(t *testing.T) {
	for _, k := range usableConfigs() {
		for _, n := range []int{1, 2, 7, 40} {
			for i := range n {
				for _, size := range []int{5, 6, 260} {
					rows := fabricRows(n)
					rows[i] = set(size)
					checkNoRun(t, k.name, k.k, rows)
				}
			}
		}
	}
}

// mixedFabric makes a valid configuration from a number, in which much depends on each other. Without strays it has no cycle: wires come from tiles of lower rank, and no lookup table without a flip-flop reads what its own cell drives.
func mixedFabric(seed int) impl.Config {
	x := uint32(seed)*2654435761 + 17
	pick := func(n int) int {
		x = x*1664525 + 1013904223
		return int(x>>8) % n
	}
	ranks, registers, strays := shuffled(25, seed), 1+pick(4), []int{0, 0, 1, 3}[pick(4)]
	k := blank()
	for tile := range 25 {
		setting := &k.Tiles[tile]
		setting.Table, setting.Register = pick(256), pick(registers) > 0
		for track := range setting.Drive {
			// Of three choices, the last one that leads to a lower rank.
			for range 3 {
				source := pick(7)
				stray := pick(40) < strays
				if isSource(tile)(source) && (stray || ranks[beside(tile, source)] <= ranks[tile]) {
					setting.Drive[track] = source
				}
			}
		}
		for n := range setting.Select {
			track := pick(8)
			if setting.Register || setting.Drive[track] != impl.DriveCell || pick(20) < strays {
				setting.Select[n] = track
			}
		}
	}
	for o := range k.Pads {
		k.Pads[o] = impl.PadConfig{Track: []int{pick(8), pick(8), pick(8), 15}[pick(4)], Invert: pick(2) == 1}
	}
	return k
}

// checkInversions requires that inverting any of the pads inverts its output and changes nothing else.
func checkInversions(t *testing.T, name string, k impl.Config, regs []bool, in []bool) {
	t.Helper()
	want := stepOf(k, regs, in)
	for o := range 3 {
		k.Pads[o].Invert = !k.Pads[o].Invert
		want.Outs[o] = !want.Outs[o]
		if got := stepOf(k, regs, in); !sameStep(got, want) {
			t.Fatalf("%s: pad %d inverted: %v, want %v", name, o, got, want)
		}
		k.Pads[o].Invert = !k.Pads[o].Invert
		want.Outs[o] = !want.Outs[o]
	}
}

// Promises 57 and 58, against the model.
func TestMixedFabrics(t *testing.T) {
	acyclic, cyclic, active := 0, 0, 0
	for seed := range 1500 {
		k, name := mixedFabric(seed), fmt.Sprint("mixed fabric ", seed)
		if _, ok := modelWireTable(k, set(25), nil); !ok {
			checkCyclic(t, name, k)
			cyclic++
			continue
		}
		acyclic++
		checkAcyclic(t, name, k)
		for i, in := range fabricRows(5) {
			regs := bitsOf(0x155aa33*(seed+i)>>3, 25)
			checkStep(t, name, k, regs, in)
			checkInversions(t, name, k, regs, in)
		}
		outs := checkFabricRun(t, name, k, fabricRows(8))
		if slices.ContainsFunc(outs, func(row []bool) bool { return !slices.Equal(row, outs[0]) }) {
			active++
		}
	}
	if acyclic < 300 || cyclic < 300 || active < 100 {
		t.Errorf("%d without a cycle, %d with one; the outputs of %d change", acyclic, cyclic, active)
	}
}

// The arbitrary configurations of chapter 9, almost all of which have cycles.
func TestMixedConfigsInTheFabric(t *testing.T) {
	for seed := range 300 {
		k, name := mixedConfig(seed), fmt.Sprint("mixed configuration ", seed)
		if _, ok := modelWireTable(k, set(25), nil); ok {
			checkAcyclic(t, name, k)
		} else {
			checkCyclic(t, name, k)
		}
	}
	checkCyclic(t, "written", writtenConfig())
}

// Promise 57.
func TestInvertedPads(t *testing.T) {
	for _, k := range usableConfigs() {
		for i, regs := range somePatterns() {
			checkInversions(t, k.name, copyConfig(k.k), regs, bitsOf(i, 4)[:i%5])
		}
	}
}

// fabricOf returns a configuration with the cells, the routes and the outputs of a circuit, and whether it has routes.
func fabricOf(c impl.Circuit) (impl.Config, bool) {
	k, place := blank(), impl.Place(c)
	routes, ok := impl.Route(c, place)
	if !ok {
		return impl.Config{}, false
	}
	tracks, starts := map[int]int{0: impl.NoTrack}, map[int]int{}
	for input := range c.Inputs {
		starts[1+input] = impl.DriveInput
	}
	for i, cell := range impl.Cells(c) {
		starts[cell.Net] = impl.DriveCell
		k.Tiles[place[i]].Table, k.Tiles[place[i]].Register = cell.Table, cell.Register
	}
	for _, route := range routes {
		tracks[route.Net] = route.Track
		for _, hop := range route.Hops {
			source := starts[route.Net]
			if hop.From != -1 {
				source = toward(hop.Tile, hop.From)
			}
			k.Tiles[hop.Tile].Drive[route.Track] = source
		}
	}
	for i, cell := range impl.Cells(c) {
		for n, net := range cell.Inputs {
			k.Tiles[place[i]].Select[n] = tracks[net]
		}
	}
	for o, lit := range c.Outs {
		k.Pads[o] = impl.PadConfig{Track: tracks[lit/2], Invert: lit%2 == 1}
	}
	return k, true
}

// checkCircuitInTheFabric requires that the fabric has the outputs of a circuit, and 0 on the other pads.
func checkCircuitInTheFabric(t *testing.T, name string, c impl.Circuit) {
	t.Helper()
	k, ok := fabricOf(c)
	if !ok {
		return
	}
	rows := rowsFor(c, 12)
	want := padded(impl.Simulate(c, rows))
	if got := impl.RunFabric(k, rows); !impl.ConfigAcyclic(k) || !sameRows(got, want) {
		t.Fatalf("%s: %v, want %v", name, got, want)
	}
}

func TestCircuitsInTheFabric(t *testing.T) {
	for _, k := range placedCircuits() {
		checkCircuitInTheFabric(t, k.name, k.c)
	}
	for seed := range 100 {
		checkCircuitInTheFabric(t, fmt.Sprint("mixed circuit ", seed), mixed(seed))
		checkCircuitInTheFabric(t, fmt.Sprint("crowded circuit ", seed), crowded(seed))
	}
}

// copyConfig returns a configuration that shares no memory with k.
func copyConfig(k impl.Config) impl.Config {
	tiles := slices.Clone(k.Tiles)
	for i := range tiles {
		tiles[i].Select, tiles[i].Drive = slices.Clone(tiles[i].Select), slices.Clone(tiles[i].Drive)
	}
	return impl.Config{Tiles: tiles, Pads: slices.Clone(k.Pads)}
}

// roomyValues returns a copy of the values with spare capacity behind it, in which every other value is true.
func roomyValues(values []bool) []bool {
	return slices.Concat(values, []bool{true, false, true})[:len(values)]
}

func checkValuesUnwritten(t *testing.T, name string, values []bool, original []bool) {
	t.Helper()
	if all := values[:len(values)+3]; !slices.Equal(all, slices.Concat(original, []bool{true, false, true})) {
		t.Errorf("%s: changed: %v, before %v", name, all, original)
	}
}

func roomyRows(rows [][]bool) [][]bool {
	list := [][]bool{}
	for _, row := range rows {
		list = append(list, roomyValues(row))
	}
	return slices.Concat(list, [][]bool{{true}, nil, {true}})[:len(rows)]
}

func checkRowsUnwritten(t *testing.T, name string, rows [][]bool, original [][]bool) {
	t.Helper()
	for i := range original {
		checkValuesUnwritten(t, name, rows[i], original[i])
	}
	if spare := rows[:len(rows)+3][len(rows):]; !sameRows(spare, [][]bool{{true}, nil, {true}}) {
		t.Errorf("%s: spare rows changed: %v", name, spare)
	}
}

func TestFabricDoesNotWriteItsArguments(t *testing.T) {
	configs := append(usableConfigs(), invalidConfigs()...)
	configs = append(configs, namedConfig{"cyclic", writtenConfig()})
	for _, k := range configs {
		argument := roomyConfig(k.k)
		regs, in, rows := roomyValues(bitsOf(0x1234567, 25)), roomyValues(bitsOf(13, 4)), roomyRows(fabricRows(9))
		long := roomyValues(set(5))
		impl.ConfigAcyclic(argument)
		stepOf(argument, regs, in)
		stepOf(argument, regs[:24], in)
		stepOf(argument, regs, long)
		impl.RunFabric(argument, rows)
		impl.RunFabric(argument, [][]bool{in, long})
		checkConfigUnwritten(t, k.name, argument, k.k)
		checkValuesUnwritten(t, k.name, regs, bitsOf(0x1234567, 25))
		checkValuesUnwritten(t, k.name, in, bitsOf(13, 4))
		checkValuesUnwritten(t, k.name, long, set(5))
		checkRowsUnwritten(t, k.name, rows, fabricRows(9))
	}
}

func TestFabricStepsShareNoMemory(t *testing.T) {
	for _, k := range usableConfigs() {
		regs, in := roomyValues(bitsOf(0x1234567, 25)), roomyValues(bitsOf(13, 4))
		want, _ := modelFabricStep(k.k, regs, in)
		argument := roomyConfig(k.k)
		first, second := stepOf(argument, regs, in), stepOf(argument, regs, in)
		spoil(first.Outs)
		if !slices.Equal(first.Next.Regs, want.Next.Regs) {
			t.Errorf("%s: the state shares memory with the outputs", k.name)
		}
		first.Outs = slices.Clone(want.Outs)
		spoil(first.Next.Regs)
		if !slices.Equal(first.Outs, want.Outs) {
			t.Errorf("%s: the outputs share memory with the state", k.name)
		}
		checkConfigUnwritten(t, k.name, argument, k.k)
		checkValuesUnwritten(t, k.name, regs, bitsOf(0x1234567, 25))
		checkValuesUnwritten(t, k.name, in, bitsOf(13, 4))
		spoil(regs)
		spoil(in)
		spoilConfig(t, k.name, argument, k.k)
		if !sameStep(second, want) || !sameStep(stepOf(k.k, bitsOf(0x1234567, 25), bitsOf(13, 4)), want) {
			t.Errorf("%s: two results share memory", k.name)
		}
	}
}

// checkSeparateRows requires of a run of the fabric that its rows share no memory with each other, with the rows of inputs or with another run, the second one. It spoils the first run and the rows of inputs.
func checkSeparateRows(t *testing.T, k fabricCase, rows [][]bool, first [][]bool, second [][]bool) {
	t.Helper()
	for i := range first {
		spoil(first[i])
		first[i] = slices.Clone(k.want[i])
		if !sameRows(first, k.want) {
			t.Fatalf("%s: row %d shares memory with another one", k.name, i)
		}
	}
	spoilLists(first, []bool{true, true, true, true})
	checkRowsUnwritten(t, k.name, rows, k.rows)
	for _, row := range rows {
		spoil(row)
	}
	if !sameRows(second, k.want) {
		t.Errorf("%s: two runs share memory", k.name)
	}
}

func TestFabricRunsShareNoMemory(t *testing.T) {
	for _, k := range fabricCases() {
		argument, rows := roomyConfig(k.k), roomyRows(k.rows)
		first, second := impl.RunFabric(argument, rows), impl.RunFabric(argument, rows)
		checkSeparateRows(t, k, rows, first, second)
		checkConfigUnwritten(t, k.name, argument, k.k)
		spoilConfig(t, k.name, argument, k.k)
		if !sameRows(second, k.want) || !sameRows(impl.RunFabric(k.k, k.rows), k.want) {
			t.Errorf("%s: a run shares memory with its configuration", k.name)
		}
	}
}

// Arguments that share their memory with each other are ordinary arguments.
func TestSharedArgumentsOfTheFabric(t *testing.T) {
	numbers := []int{0, 1, 0, 1, 1, 1, 0, 0}
	k := blank()
	for tile := range k.Tiles {
		k.Tiles[tile] = impl.TileConfig{Table: 37 * tile % 256, Select: numbers[:3], Register: true, Drive: numbers}
	}
	k.Pads[1] = impl.PadConfig{Track: 4}
	regs := bitsOf(0x2aaf1, 25)
	checkStep(t, "shared lists", k, regs, regs[:4])
	step := stepOf(k, regs, regs[21:])
	if want, _ := modelFabricStep(k, bitsOf(0x2aaf1, 25), bitsOf(0x2aaf1, 25)[21:]); !sameStep(step, want) || !slices.Equal(regs, bitsOf(0x2aaf1, 25)) {
		t.Errorf("%v, want %v; flip-flops %v", step, want, regs)
	}
	row := []bool{true}
	got := impl.RunFabric(counterConfig(), [][]bool{row, row, row[:0], row})
	if !sameRows(got, rowsOf("000 100 000 000")) {
		t.Errorf("shared rows: %v", got)
	}
}

// Every run starts with all flip-flops 0, and every step with its state: no call before leaves anything behind.
func TestFabricKeepsNoState(t *testing.T) {
	for range 3 {
		for _, k := range fabricCases() {
			checkUnusable(t, "nothing", impl.Config{})
			checkCyclic(t, "written", writtenConfig())
			checkNoRun(t, k.name, k.k, make([][]bool, 41))
			if got := impl.RunFabric(k.k, k.rows); !sameRows(got, k.want) {
				t.Fatalf("%s: %v, want %v", k.name, got, k.want)
			}
			checkStep(t, k.name, k.k, allBut(25), k.rows[0])
			checkStep(t, k.name, k.k, set(25), k.rows[0])
		}
	}
}
