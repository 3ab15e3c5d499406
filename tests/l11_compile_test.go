package tests

import (
	"bytes"
	"fmt"
	"maps"
	"reflect"
	"slices"
	"testing"

	"loop.example/fpgatoolchain/impl"
)

// padded returns rows of outputs with 0 on every pad that they leave unused.
func padded(rows [][]bool) [][]bool {
	list := [][]bool{}
	for _, row := range rows {
		list = append(list, slices.Concat(row, set(3-len(row))))
	}
	return list
}

// someRuns returns runs of several lengths, up to the longest one, for a circuit.
func someRuns(c impl.Circuit) [][][]bool {
	ones := slices.Repeat([][]bool{allBut(c.Inputs)}, 40)
	mixed := [][]bool{}
	for i := range 37 {
		mixed = append(mixed, bitsOf(i*2654435761>>7, c.Inputs))
	}
	return [][][]bool{nil, rowsFor(c, 1), rowsFor(c, 2), rowsFor(c, 40), ones, mixed}
}

// checkEveryCycle requires that the fabric does in one clock cycle, from every state and for all inputs, what the circuit does; from the state 0 on that is promise 5 for every sequence of inputs.
func checkEveryCycle(t *testing.T, name string, c impl.Circuit, k impl.Config) {
	t.Helper()
	tiles := impl.Place(c)[:len(c.Next)]
	spread := func(state []bool) []bool {
		regs := set(25)
		for i, tile := range tiles {
			regs[tile] = state[i]
		}
		return regs
	}
	for x := range 1 << (c.Inputs + len(c.Next)) {
		in, state := bitsOf(x, c.Inputs), bitsOf(x>>c.Inputs, len(c.Next))
		outs, next := modelValues(c, state, in, c.Outs), modelValues(c, state, in, c.Next)
		want := impl.FabricStep{Outs: slices.Concat(outs, set(3-len(outs))), Next: impl.FabricState{Regs: spread(next)}}
		if got := stepOf(k, spread(state), in); !sameStep(got, want) {
			t.Fatalf("%s: state %v, inputs %v: %v, want %v: %v of %v", name, state, in, got, want, k, c)
		}
	}
}

// checkRegistered requires promise 56 of a configuration: it has no combinational cycle, nor has it one when tiles that drive a wire, or all tiles, are registered.
func checkRegistered(t *testing.T, name string, k impl.Config) {
	t.Helper()
	if !impl.ConfigValid(k) || !impl.ConfigAcyclic(k) {
		t.Fatalf("%s: not valid, or not acyclic: %v", name, k)
	}
	drivers, all := copyConfig(k), copyConfig(k)
	for tile, setting := range k.Tiles {
		all.Tiles[tile].Register = true
		if !slices.Contains(setting.Drive, impl.DriveCell) {
			continue
		}
		drivers.Tiles[tile].Register = true
		one := copyConfig(k)
		one.Tiles[tile].Register = true
		if !impl.ConfigAcyclic(one) {
			t.Fatalf("%s: not acyclic with tile %d registered: %v", name, tile, k)
		}
	}
	if !impl.ConfigAcyclic(drivers) || !impl.ConfigAcyclic(all) {
		t.Fatalf("%s: not acyclic with all registered: %v", name, k)
	}
}

// checkConfigured requires promises 5 and 56 and the configuration that the sentences of the specification give. It returns the configuration, and whether there is one.
func checkConfigured(t *testing.T, name string, c impl.Circuit) (impl.Config, bool) {
	t.Helper()
	k, ok := impl.Configure(c)
	want, wantOk := fabricOf(c)
	if ok != wantOk || !sameConfig(k, want) {
		t.Fatalf("%s: %v, %v, want %v, %v: %v", name, k, ok, want, wantOk, c)
	}
	if !ok {
		return k, false
	}
	checkRegistered(t, name, k)
	checkEveryCycle(t, name, c, k)
	for _, rows := range someRuns(c) {
		if got, want := impl.RunFabric(k, rows), padded(impl.Simulate(c, rows)); !sameRows(got, want) {
			t.Fatalf("%s: run %v, want %v: %v of %v", name, got, want, k, c)
		}
	}
	return k, true
}

// checkCompiled requires promise 6 and, by the configuration of the optimized circuit, the bitstream. It returns the bitstream, and whether there is one.
func checkCompiled(t *testing.T, name string, c impl.Circuit) ([]byte, bool) {
	t.Helper()
	stream, ok := impl.Compile(c)
	k, wantOk := impl.Configure(impl.Optimize(c))
	if ok != wantOk || !bytes.Equal(stream, impl.EncodeConfig(k)) {
		t.Fatalf("%s: % x, %v, want %v, %v: %v", name, stream, ok, k, wantOk, c)
	}
	if !ok {
		return stream, false
	}
	if !bytes.Equal(stream, modelStream(k)) {
		t.Fatalf("%s: % x is not the bitstream of %v", name, stream, k)
	}
	for _, rows := range someRuns(c) {
		if got, want := impl.RunBitstream(stream, rows), padded(impl.Simulate(c, rows)); !sameRows(got, want) {
			t.Fatalf("%s: run %v, want %v: % x of %v", name, got, want, stream, c)
		}
	}
	return stream, true
}

// checkBoth requires what the last two functions require, also of the optimized circuit.
func checkBoth(t *testing.T, name string, c impl.Circuit) {
	t.Helper()
	checkConfigured(t, name, c)
	checkConfigured(t, name+", optimized", impl.Optimize(c))
	checkCompiled(t, name, c)
}

type tileMap = map[int]impl.TileConfig

type padList = []impl.PadConfig

// configCase is a circuit and its configuration: the tiles that are not as in the empty one, and the pads that are used.
type configCase struct {
	name  string
	c     impl.Circuit
	tiles tileMap
	pads  padList
}

func (k configCase) config() impl.Config {
	config := blank()
	for tile, setting := range k.tiles {
		config.Tiles[tile] = setting
	}
	copy(config.Pads, k.pads)
	return config
}

// sources fills up the sources of a tile: nothing drives the tracks that are not named.
func sources(drive []int) []int {
	return slices.Concat(drive, make([]int, 8-len(drive)))
}

// wired returns the configuration of a tile without a cell.
func wired(drive ...int) impl.TileConfig {
	return tileOf(0, 15, 15, 15, false, sources(drive)...)
}

// lut and latch return the configurations of tiles with a cell: the table, the tracks that it reads, and the sources.
func lut(table int, a int, b int, c int, drive ...int) impl.TileConfig {
	return tileOf(table, a, b, c, false, sources(drive)...)
}

func latch(table int, a int, b int, c int, drive ...int) impl.TileConfig {
	return tileOf(table, a, b, c, true, sources(drive)...)
}

// read and inverted return pads that read a track, and unread is one that reads none.
func read(track int) impl.PadConfig {
	return impl.PadConfig{Track: track}
}

func inverted(track int) impl.PadConfig {
	return impl.PadConfig{Track: track, Invert: true}
}

var unread = read(15)

// row returns the tiles of the row with this first tile, from the second one on, with their sources.
func row(first int, drive ...int) tileMap {
	tiles := tileMap{}
	for tile := first + 1; tile < first+5; tile++ {
		tiles[tile] = wired(drive...)
	}
	return tiles
}

// together returns the tiles of several parts; no tile is in two of them.
func together(parts ...tileMap) tileMap {
	tiles := tileMap{}
	for _, part := range parts {
		maps.Copy(tiles, part)
	}
	return tiles
}

// constantPads are circuits of which nothing needs a wire.
func constantPads() []configCase {
	return []configCase{
		{"nothing", impl.Circuit{}, nil, nil},
		{"only inputs", impl.Circuit{Inputs: 4}, nil, nil},
		{"constant false", impl.Circuit{Outs: []int{0}}, nil, padList{unread}},
		{"constant true", impl.Circuit{Outs: []int{1}}, nil, padList{inverted(15)}},
		{"constant outputs", impl.Circuit{Inputs: 2, Outs: []int{0, 1, 0}}, nil, padList{unread, inverted(15), unread}},
		{"a gate that nothing uses", withTwoInputs([]int{1, 1, 1}, impl.Gate{A: 2, B: 4}), nil, padList{inverted(15), inverted(15), inverted(15)}},
		{"a latch that becomes constant false", impl.Circuit{Next: []int{0}}, tileMap{0: latch(0, 15, 15, 15)}, nil},
		{"a latch that becomes constant true", impl.Circuit{Next: []int{1}, Outs: []int{1}}, tileMap{0: latch(1, 15, 15, 15)}, padList{inverted(15)}},
	}
}

// inputPads are circuits whose outputs are inputs.
func inputPads() []configCase {
	up := tileMap{15: wired(6), 10: wired(5), 5: wired(5), 0: wired(5)}
	down := tileMap{9: wired(2), 14: wired(2)}
	all := together(row(0, 3), row(5, 3), row(10, 3), tileMap{0: wired(6), 5: wired(6), 10: wired(6)})
	crossing := tileMap{
		0: wired(6, 0, 5), 1: wired(3, 0, 3), 2: wired(3, 0, 3), 3: wired(3, 0, 3), 4: wired(3, 0, 3),
		5: wired(0, 6, 5), 6: wired(0, 3), 7: wired(0, 3), 8: wired(0, 3), 9: wired(2, 3),
		10: wired(0, 0, 6), 14: wired(2),
	}
	return []configCase{
		{"an input", impl.Circuit{Inputs: 1, Outs: []int{2}}, together(tileMap{0: wired(6)}, row(0, 3)), padList{read(0)}},
		{"an input, complemented", impl.Circuit{Inputs: 1, Outs: []int{3}}, together(tileMap{0: wired(6)}, row(0, 3)), padList{inverted(0)}},
		{"an input between constants", impl.Circuit{Inputs: 1, Outs: []int{0, 2, 1}}, together(tileMap{0: wired(6)}, row(0, 3), tileMap{9: wired(2)}), padList{unread, read(0), inverted(15)}},
		{"the last input", impl.Circuit{Inputs: 4, Outs: []int{8}}, together(up, row(0, 3)), padList{read(0)}},
		{"the last input at all outputs", impl.Circuit{Inputs: 4, Outs: []int{8, 9, 8}}, together(up, row(0, 3), down), padList{read(0), inverted(0), read(0)}},
		{"an input beside a gate that nothing uses", withTwoInputs([]int{4}, impl.Gate{A: 2, B: 4}), together(tileMap{5: wired(6), 0: wired(5)}, row(0, 3)), padList{read(0)}},
		{"every input at the output of its row", impl.Circuit{Inputs: 3, Outs: []int{2, 5, 6}}, all, padList{read(0), inverted(0), read(0)}},
		{"inputs at the outputs of the opposite rows", impl.Circuit{Inputs: 3, Outs: []int{6, 4, 2}}, crossing, padList{read(2), read(1), read(0)}},
	}
}

// latchTiles are circuits with latches and without gates.
func latchTiles() []configCase {
	shift := tileMap{0: latch(2, 0, 15, 15, 6, 1), 1: latch(2, 1, 15, 15, 1, 3), 2: latch(2, 0, 15, 15, 3, 1), 3: wired(0, 3), 4: wired(0, 3)}
	return []configCase{
		{"a latch", impl.Circuit{Next: []int{1}, Outs: []int{2}}, tileMap{4: latch(1, 15, 15, 15, 1)}, padList{read(0)}},
		{"a latch, complemented", impl.Circuit{Next: []int{0}, Outs: []int{0, 3}}, tileMap{9: latch(0, 15, 15, 15, 1)}, padList{unread, inverted(0)}},
		{"a latch at all outputs", impl.Circuit{Next: []int{1}, Outs: []int{2, 3, 2}},
			tileMap{4: latch(1, 15, 15, 15, 1), 9: wired(2), 14: wired(2)}, padList{read(0), inverted(0), read(0)}},
		{"a latch that keeps its value", impl.Circuit{Next: []int{2}}, tileMap{0: latch(2, 0, 15, 15, 1)}, nil},
		{"a latch that inverts its value", impl.Circuit{Next: []int{3}, Outs: []int{2}}, tileMap{4: latch(1, 0, 15, 15, 1)}, padList{read(0)}},
		{"a latch for an input", impl.Circuit{Inputs: 4, Next: []int{5}}, tileMap{5: latch(1, 0, 15, 15, 6)}, nil},
		{"a latch for the last input", impl.Circuit{Inputs: 4, Next: []int{8}}, tileMap{15: latch(2, 0, 15, 15, 6)}, nil},
		{"latches that exchange their values", impl.Circuit{Next: []int{4, 2}, Outs: []int{2, 4}},
			tileMap{4: latch(2, 1, 15, 15, 1, 5), 9: latch(2, 0, 15, 15, 2, 1)}, padList{read(0), read(1)}},
		{"shift register", impl.Circuit{Inputs: 1, Next: []int{2, 4, 6}, Outs: []int{8}}, shift, padList{read(1)}},
	}
}

// lutTiles are circuits with gates.
func lutTiles() []configCase {
	two := together(tileMap{0: lut(8, 0, 1, 15, 6, 5, 1), 5: wired(0, 6)}, row(0, 0, 0, 3))
	three := together(tileMap{0: lut(32, 0, 1, 2, 6, 5, 5, 1), 5: wired(0, 6, 5), 10: wired(0, 0, 6)}, row(0, 0, 0, 0, 3))
	several := together(tileMap{10: lut(2, 0, 15, 15, 6, 1), 5: wired(0, 5), 0: wired(0, 5)}, row(0, 0, 3), tileMap{9: wired(0, 2), 14: wired(0, 2)})
	counted := tileMap{0: lut(6, 0, 1, 15, 6, 4, 1), 1: latch(2, 2, 15, 15, 0, 1, 3), 2: wired(0, 3), 3: wired(0, 3), 4: wired(0, 3)}
	// The latch is on track 0, the third input, which comes before it, on track 1.
	falling := tileMap{
		0: lut(4, 1, 0, 15, 4, 5, 1), 1: latch(2, 2, 15, 15, 1, 0, 3), 2: wired(3), 3: wired(3), 4: wired(3),
		5: wired(6, 5), 6: wired(3), 7: wired(3), 8: wired(3), 9: wired(3), 10: wired(0, 6),
	}
	constants := tileMap{0: latch(0, 15, 15, 15), 1: latch(0, 15, 15, 15), 9: lut(0, 15, 15, 15, 1), 14: latch(1, 0, 15, 15, 2)}
	return []configCase{
		{"a gate", withTwoInputs([]int{6}, impl.Gate{A: 2, B: 4}), two, padList{read(2)}},
		{"a gate, complemented", withTwoInputs([]int{7}, impl.Gate{A: 4, B: 2}), two, padList{inverted(2)}},
		{"a gate beside constants", withTwoInputs([]int{6, 1, 0}, impl.Gate{A: 2, B: 4}), two, padList{read(2), inverted(15), unread}},
		{"a gate of another gate", withInputs(3, []int{10}, impl.Gate{A: 2, B: 5}, impl.Gate{A: 6, B: 8}), three, padList{read(3)}},
		{"a gate at all outputs", withInputs(3, []int{8, 8, 9}, impl.Gate{A: 6, B: 6}), several, padList{read(1), read(1), inverted(1)}},
		{"a gate of constants", impl.Circuit{Gates: []impl.Gate{{A: 1, B: 0}}, Outs: []int{3, 1}}, tileMap{4: lut(0, 15, 15, 15, 1)}, padList{inverted(0), inverted(15)}},
		{"a gate of constants that is true", impl.Circuit{Gates: []impl.Gate{{A: 1, B: 1}}, Outs: []int{2}}, tileMap{4: lut(1, 15, 15, 15, 1)}, padList{read(0)}},
		{"counter", counter(), counted, padList{read(1)}},
		{"tracks that do not ascend", impl.Circuit{Inputs: 3, Next: []int{10}, Gates: []impl.Gate{{A: 8, B: 7}}, Outs: []int{9, 4}}, falling, padList{inverted(0), read(0)}},
		{"all limits", full(), constants, padList{unread, unread, read(0)}},
	}
}

func configCases() []configCase {
	return slices.Concat(constantPads(), inputPads(), latchTiles(), lutTiles())
}

// Promise 5: the configurations are written out, so that this test does not depend on a model.
func TestKnownConfigurations(t *testing.T) {
	for _, k := range configCases() {
		got, ok := impl.Configure(k.c)
		if want := k.config(); !ok || !sameConfig(got, want) {
			t.Errorf("%s: %v, %v, want %v: %v", k.name, got, ok, want, k.c)
		}
		checkBoth(t, k.name, k.c)
	}
}

// Promise 6: the bitstreams are those of chapter 9, which are written out with checksums that were computed outside of Go.
func TestKnownCompilations(t *testing.T) {
	roundabout := impl.Circuit{Inputs: 1, Next: []int{12}, Gates: []impl.Gate{{A: 4, B: 2}, {A: 1, B: 3}, {A: 5, B: 8}, {A: 11, B: 7}, {A: 2, B: 4}}, Outs: []int{4}}
	cases := []struct {
		name string
		c    impl.Circuit
		want []byte
	}{
		{"nothing", impl.Circuit{}, streamCases()[0].stream},
		{"only inputs", impl.Circuit{Inputs: 4}, streamCases()[0].stream},
		{"gates that nothing uses", impl.Circuit{Inputs: 1, Gates: []impl.Gate{{A: 2, B: 3}}, Outs: []int{0}}, streamCases()[0].stream},
		{"outputs that are constant false", withTwoInputs([]int{6, 8, 0}, impl.Gate{A: 2, B: 3}, impl.Gate{A: 6, B: 4}), streamCases()[0].stream},
		{"counter", counter(), streamCases()[1].stream},
		{"counter in another form", roundabout, streamCases()[1].stream},
	}
	for _, k := range cases {
		if got, ok := impl.Compile(k.c); !ok || !bytes.Equal(got, k.want) {
			t.Errorf("%s: % x, %v, want % x", k.name, got, ok, k.want)
		}
		checkBoth(t, k.name, k.c)
	}
}

// Promises 5 and 6: the outputs are written out.
func TestKnownRunsOfCompiledCircuits(t *testing.T) {
	cases := []struct {
		name string
		c    impl.Circuit
		rows string
		want string
	}{
		{"nothing", impl.Circuit{}, "- - -", "000 000 000"},
		{"constant true", impl.Circuit{Outs: []int{1}}, "- -", "100 100"},
		{"constants", impl.Circuit{Inputs: 1, Outs: []int{0, 1, 0}}, "0 1", "010 010"},
		{"counter", counter(), "1 1 0 1 1 1", "000 100 000 000 100 000"},
		{"an input and its complement", impl.Circuit{Inputs: 1, Outs: []int{2, 3}}, "0 1 1 0", "010 100 100 010"},
		{"shift register", impl.Circuit{Inputs: 1, Next: []int{2, 4, 6}, Outs: []int{8}}, "1 0 1 1 0 0 0", "000 000 000 100 000 100 100"},
		{"a latch and its complement", impl.Circuit{Next: []int{1}, Outs: []int{2, 3, 2}}, "- - -", "010 101 101"},
		{"a conjunction and its complement", withTwoInputs([]int{6, 7}, impl.Gate{A: 2, B: 4}), "00 10 01 11", "010 010 010 100"},
		{"the last input", impl.Circuit{Inputs: 4, Outs: []int{8, 0, 8}}, "0001 1110 1111", "101 000 101"},
		{"no outputs", impl.Circuit{Inputs: 2, Next: []int{2}}, "10 01", "000 000"},
	}
	for _, k := range cases {
		config, _ := impl.Configure(k.c)
		stream, _ := impl.Compile(k.c)
		rows, want := rowsOf(k.rows), rowsOf(k.want)
		if got := impl.RunFabric(config, rows); !sameRows(got, want) {
			t.Errorf("%s: configured %v, want %v", k.name, got, want)
		}
		if got := impl.RunBitstream(stream, rows); !sameRows(got, want) {
			t.Errorf("%s: compiled %v, want %v", k.name, got, want)
		}
	}
}

// compiledCircuits returns all valid circuits that some test names.
func compiledCircuits() []namedCircuit {
	all := routedCircuits()
	for _, k := range optimizedCases() {
		all = append(all, namedCircuit{k.name, k.c})
	}
	for _, k := range unrouted() {
		all = append(all, namedCircuit{k.name, k.c})
	}
	return all
}

// Promises 5, 6 and 56.
func TestCompiledNamedCircuits(t *testing.T) {
	for _, k := range compiledCircuits() {
		checkBoth(t, k.name, k.c)
	}
}

// mixedOfSize makes a valid circuit of a given size, with any literal wherever there may be one.
func mixedOfSize(inputs int, latches int, gates int, outs int) impl.Circuit {
	x := uint32(inputs+5*latches+20*gates+300*outs)*2654435761 + 29
	pick := func(n int) int {
		x = x*1664525 + 1013904223
		return int(x>>8) % n
	}
	count := 1 + inputs + latches
	c := impl.Circuit{Inputs: inputs}
	for range gates {
		c.Gates = append(c.Gates, impl.Gate{A: pick(2 * count), B: 2*count - 1 - pick(min(2*count, 7))})
		count++
	}
	for range latches {
		c.Next = append(c.Next, pick(2*count))
	}
	for range outs {
		c.Outs = append(c.Outs, 2*count-1-pick(min(2*count, 9)))
	}
	return c
}

// everySize yields one circuit of every size within the limits.
func everySize(yield func(namedCircuit) bool) {
	for inputs := range impl.MaxInputs + 1 {
		for latches := range impl.MaxLatches + 1 {
			for gates := range impl.MaxGates + 1 {
				for outs := range impl.MaxOutputs + 1 {
					name := fmt.Sprintf("%d inputs, %d latches, %d gates, %d outputs", inputs, latches, gates, outs)
					if !yield(namedCircuit{name, mixedOfSize(inputs, latches, gates, outs)}) {
						return
					}
				}
			}
		}
	}
}

// Promises 5, 6 and 56 for every size within the limits.
func TestCompiledCircuitsOfEverySize(t *testing.T) {
	for k := range everySize {
		if !impl.CircuitValid(k.c) {
			t.Fatalf("%s: not valid: %v", k.name, k.c)
		}
		checkBoth(t, k.name, k.c)
	}
}

// Promises 5, 6 and 56 for every literal at every output: constants, inputs, a latch and a gate, each complemented or not, and the same at several outputs. The latch takes each of them by turns.
func TestCompiledCircuitsWithEveryOutput(t *testing.T) {
	const lits = 10
	lists := [][]int{nil}
	for a := range lits {
		lists = append(lists, []int{a})
		for b := range lits {
			lists = append(lists, []int{a, b})
			for c := range lits {
				lists = append(lists, []int{a, b, c})
			}
		}
	}
	for i, outs := range lists {
		c := impl.Circuit{Inputs: 2, Next: []int{i * 7 % lits}, Gates: []impl.Gate{{A: 3, B: 6}}, Outs: outs}
		checkBoth(t, fmt.Sprintf("outputs %v", outs), c)
	}
}

// Promises 5, 6 and 56 for a part of the circuits that chapter 1 enumerates, with the invalid ones among them.
func TestCompiledSmallCircuits(t *testing.T) {
	valid, i := 0, 0
	for c := range smallCircuits {
		i++
		if !impl.CircuitValid(c) {
			if i%11 == 0 {
				checkNotCompiled(t, "small circuit", c)
			}
			continue
		}
		if valid++; valid%13 == 0 {
			checkConfigured(t, "small circuit", c)
			checkCompiled(t, "small circuit", c)
		}
	}
	if valid < 50000 {
		t.Errorf("%d valid circuits", valid)
	}
}

// Promises 5, 6 and 56 for circuits up to the limits.
func TestCompiledMixedCircuits(t *testing.T) {
	large, latches, optimized := 0, 0, 0
	for seed := range 700 {
		c := mixed(seed)
		if seed%2 == 0 {
			c = crowded(seed)
		}
		checkBoth(t, fmt.Sprint("mixed circuit ", seed), c)
		if len(impl.Cells(c)) >= 10 {
			large++
		}
		if len(c.Next) > 0 {
			latches++
		}
		k, _ := impl.Configure(c)
		if stream, _ := impl.Compile(c); !bytes.Equal(impl.EncodeConfig(k), stream) {
			optimized++
		}
	}
	// Circuits of few cells, or those that optimizing leaves as they are, would test little.
	if large < 40 || latches < 300 || optimized < 100 {
		t.Errorf("%d circuits of many cells, %d with latches; %d are compiled to another configuration than their own", large, latches, optimized)
	}
}

// Promise 56, for configurations that come from no circuit.
func TestRegisteringTiles(t *testing.T) {
	for _, k := range usableConfigs() {
		checkRegistered(t, k.name, k.k)
	}
	acyclic := 0
	for seed := range 400 {
		if k := mixedFabric(seed); impl.ConfigAcyclic(k) {
			checkRegistered(t, fmt.Sprint("mixed fabric ", seed), k)
			acyclic++
		}
	}
	if acyclic < 100 {
		t.Errorf("%d configurations without a cycle", acyclic)
	}
}

// compiled returns the bitstream of a circuit that can be compiled.
func compiled(c impl.Circuit) []byte {
	stream, ok := impl.Compile(c)
	if !ok {
		panic("not compiled")
	}
	return stream
}

// alike returns circuits of other forms that have the same optimized circuit.
func alike(c impl.Circuit) []impl.Circuit {
	list := []impl.Circuit{exchanged(c)}
	if len(c.Gates) == impl.MaxGates {
		return list
	}
	last := 2 * (1 + c.Inputs + len(c.Next) + len(c.Gates))
	list = append(list, withLastGate(c, impl.Gate{A: last - 1, B: 0}))
	for i, lit := range c.Outs {
		// The literals of these gates are simplified to that of the output: the first two themselves, the last one complemented.
		for n, g := range []impl.Gate{{A: lit, B: lit}, {A: 1, B: lit}, {A: lit ^ 1, B: lit ^ 1}} {
			other := withLastGate(copyOf(c), g)
			other.Outs[i] = last + n/2
			list = append(list, other)
		}
	}
	return list
}

// checkSameBitstream requires the second half of promise 6.
func checkSameBitstream(t *testing.T, name string, a impl.Circuit, b impl.Circuit) {
	t.Helper()
	if !sameCircuit(impl.Optimize(a), impl.Optimize(b)) {
		t.Fatalf("%s: optimized %v and %v", name, impl.Optimize(a), impl.Optimize(b))
	}
	first, ok := checkCompiled(t, name, a)
	second, okToo := checkCompiled(t, name, b)
	if ok != okToo || !bytes.Equal(first, second) {
		t.Fatalf("%s: % x, %v for %v, % x, %v for %v", name, first, ok, a, second, okToo, b)
	}
}

// Promise 6.
func TestEqualOptimizedCircuits(t *testing.T) {
	for _, k := range optimizedCases() {
		checkSameBitstream(t, k.name, k.c, k.want)
	}
	circuits := unroutedCircuits()
	for seed := range 120 {
		circuits = append(circuits, namedCircuit{fmt.Sprint("mixed circuit ", seed), mixed(seed)})
	}
	for _, k := range append(circuits, simulated()...) {
		checkSameBitstream(t, k.name+", optimized", k.c, impl.Optimize(k.c))
		for _, other := range alike(k.c) {
			checkSameBitstream(t, k.name, k.c, other)
		}
	}
}

// unroutedCase is a circuit and whether it can be configured, and compiled.
type unroutedCase struct {
	name       string
	c          impl.Circuit
	configured bool
	compiled   bool
}

// narrow has no route for its last net: it starts in tile 1, where nets are on all tracks but the lowest one, and ends in tile 3, where that one is taken.
func narrow() impl.Circuit {
	return impl.Circuit{Inputs: 4, Next: []int{27, 24}, Gates: []impl.Gate{
		{A: 6, B: 11}, {A: 9, B: 12}, {A: 4, B: 6}, {A: 3, B: 9}, {A: 14, B: 21}, {A: 6, B: 17}, {A: 16, B: 23},
	}, Outs: []int{19, 22}}
}

// unrouted are circuits for which Configure, or Compile, or neither finds routes. A random search found them.
func unrouted() []unroutedCase {
	oneMore := narrow()
	oneMore.Gates = append(oneMore.Gates, impl.Gate{A: 22, B: 22})
	oneMore.Outs[1] = 28
	otherForm := impl.Circuit{Inputs: 4, Next: []int{41, 36}, Gates: []impl.Gate{
		{A: 11, B: 6}, {A: 9, B: 12}, {A: 14, B: 15}, {A: 16, B: 14}, {A: 19, B: 15}, {A: 18, B: 22}, {A: 6, B: 4},
		{A: 9, B: 3}, {A: 29, B: 23}, {A: 10, B: 10}, {A: 20, B: 24}, {A: 17, B: 6}, {A: 4, B: 11}, {A: 31, B: 16},
	}, Outs: []int{27, 30}}
	oneLatch := impl.Circuit{Inputs: 4, Next: []int{38}, Gates: []impl.Gate{
		{A: 4, B: 6}, {A: 3, B: 7}, {A: 6, B: 4}, {A: 9, B: 10}, {A: 13, B: 8}, {A: 18, B: 21}, {A: 15, B: 22},
		{A: 25, B: 12}, {A: 11, B: 4}, {A: 27, B: 16}, {A: 21, B: 19}, {A: 18, B: 19}, {A: 29, B: 26}, {A: 2, B: 7},
	}, Outs: []int{36}}
	threeLatches := impl.Circuit{Inputs: 4, Next: []int{42, 40, 34}, Gates: []impl.Gate{
		{A: 6, B: 4}, {A: 17, B: 17}, {A: 12, B: 10}, {A: 17, B: 6}, {A: 13, B: 11}, {A: 20, B: 23}, {A: 2, B: 4},
		{A: 25, B: 26}, {A: 26, B: 29}, {A: 11, B: 6}, {A: 8, B: 3}, {A: 32, B: 25}, {A: 12, B: 11}, {A: 21, B: 9},
	}, Outs: []int{38, 36}}
	fewCells := impl.Circuit{Inputs: 4, Next: []int{38, 34}, Gates: []impl.Gate{
		{A: 12, B: 11}, {A: 2, B: 6}, {A: 15, B: 16}, {A: 4, B: 15}, {A: 15, B: 19}, {A: 16, B: 16}, {A: 16, B: 25},
		{A: 11, B: 9}, {A: 29, B: 28}, {A: 21, B: 26}, {A: 28, B: 33}, {A: 20, B: 19}, {A: 3, B: 5}, {A: 18, B: 22},
	}, Outs: []int{38}}
	threeOutputs := impl.Circuit{Inputs: 4, Next: []int{30, 27}, Gates: []impl.Gate{
		{A: 10, B: 7}, {A: 14, B: 7}, {A: 11, B: 12}, {A: 11, B: 10}, {A: 4, B: 2}, {A: 19, B: 15},
		{A: 20, B: 23}, {A: 20, B: 23}, {A: 25, B: 17}, {A: 15, B: 28}, {A: 30, B: 33}, {A: 6, B: 6},
	}, Outs: []int{35, 36, 29}}
	return []unroutedCase{
		{"narrow", narrow(), false, false},
		{"narrow, in another form", otherForm, false, false},
		{"narrow, with one gate more", oneMore, true, false},
		{"one latch, one output", oneLatch, false, false},
		{"three latches", threeLatches, false, false},
		{"many gates that are not needed", fewCells, false, true},
		{"one gate that is constant", threeOutputs, false, true},
	}
}

func unroutedCircuits() []namedCircuit {
	all := []namedCircuit{}
	for _, k := range unrouted() {
		all = append(all, namedCircuit{k.name, k.c})
	}
	return all
}

// checkNoConfiguration and checkNoBitstream require the results for a circuit that is invalid or cannot be routed.
func checkNoConfiguration(t *testing.T, name string, c impl.Circuit) {
	t.Helper()
	if k, ok := impl.Configure(c); ok || !isNoConfig(k) {
		t.Fatalf("%s: %v, %v: %v", name, k, ok, c)
	}
}

func checkNoBitstream(t *testing.T, name string, c impl.Circuit) {
	t.Helper()
	stream, ok := impl.Compile(c)
	if ok || len(stream) != 0 {
		t.Fatalf("%s: % x, %v: %v", name, stream, ok, c)
	}
	if got := impl.RunBitstream(stream, [][]bool{nil, {true}}); len(got) != 0 {
		t.Fatalf("%s: run %v", name, got)
	}
}

func checkNotCompiled(t *testing.T, name string, c impl.Circuit) {
	t.Helper()
	checkNoConfiguration(t, name, c)
	checkNoBitstream(t, name, c)
}

func TestUnroutedCircuits(t *testing.T) {
	for _, k := range unrouted() {
		if !impl.CircuitValid(k.c) {
			t.Fatalf("%s: not valid: %v", k.name, k.c)
		}
		if _, ok := checkConfigured(t, k.name, k.c); ok != k.configured {
			t.Errorf("%s: configured: %v", k.name, ok)
		}
		if _, ok := checkCompiled(t, k.name, k.c); ok != k.compiled {
			t.Errorf("%s: compiled: %v", k.name, ok)
		}
		if !k.configured {
			checkNoConfiguration(t, k.name, k.c)
		}
		if !k.compiled {
			checkNoBitstream(t, k.name, k.c)
			checkNoConfiguration(t, k.name+", optimized", impl.Optimize(k.c))
		}
	}
}

// An invalid circuit must not be taken for its optimized one, which is a valid circuit.
func TestInvalidCircuitsAreNotCompiled(t *testing.T) {
	for _, k := range invalidCircuits() {
		checkNotCompiled(t, k.name, k.c)
	}
	for _, c := range pastLimits() {
		checkNotCompiled(t, "past a limit", c)
	}
	for size := 5; size < 30; size++ {
		checkNotCompiled(t, "inputs", impl.Circuit{Inputs: size})
		checkNotCompiled(t, "outputs", impl.Circuit{Outs: make([]int, size)})
		checkNotCompiled(t, "latches", impl.Circuit{Next: make([]int, size)})
		checkNotCompiled(t, "gates", impl.Circuit{Gates: make([]impl.Gate, size+10)})
	}
}

// checkBitstreamRun requires promise 59 for one run.
func checkBitstreamRun(t *testing.T, name string, list []byte, rows [][]bool) {
	t.Helper()
	want := [][]bool{}
	if k, ok := impl.DecodeConfig(list); ok {
		want = impl.RunFabric(k, rows)
	}
	if got := impl.RunBitstream(list, rows); !sameRows(got, want) {
		t.Fatalf("%s: run %v, want %v: % x", name, got, want, list)
	}
}

func checkNoBitstreamRun(t *testing.T, name string, list []byte, rows [][]bool) {
	t.Helper()
	if got := impl.RunBitstream(list, rows); len(got) != 0 {
		t.Fatalf("%s: run %v of %d rows: % x", name, got, len(rows), list)
	}
}

// namedStream is a bitstream that tests can name.
type namedStream struct {
	name   string
	stream []byte
}

// runnable returns bitstreams of acyclic configurations, compiled and written ones.
func runnable() []namedStream {
	list := []namedStream{}
	for _, k := range usableConfigs() {
		list = append(list, namedStream{k.name, modelStream(k.k)})
	}
	for _, k := range []namedCircuit{{"compiled counter", counter()}, {"compiled constant", impl.Circuit{Outs: []int{1}}}, {"compiled, all limits", dense()}} {
		list = append(list, namedStream{k.name, compiled(k.c)})
	}
	return list
}

// Promise 59: a bitstream runs as its configuration does, wherever it comes from.
func TestRunsOfBitstreams(t *testing.T) {
	for _, k := range fabricCases() {
		if got := impl.RunBitstream(modelStream(k.k), k.rows); !sameRows(got, k.want) {
			t.Errorf("%s: %v, want %v", k.name, got, k.want)
		}
	}
	for _, k := range runnable() {
		for n := range 41 {
			rows := fabricRows(n)
			checkBitstreamRun(t, k.name, k.stream, rows)
			if got := impl.RunBitstream(k.stream, rows); len(got) != n {
				t.Fatalf("%s: %d rows of outputs for %d rows", k.name, len(got), n)
			}
		}
	}
	cyclic := 0
	for seed := range 300 {
		k := mixedFabric(seed)
		checkBitstreamRun(t, fmt.Sprint("mixed fabric ", seed), modelStream(k), fabricRows(6))
		if !impl.ConfigAcyclic(k) {
			checkNoBitstreamRun(t, fmt.Sprint("mixed fabric ", seed), modelStream(k), fabricRows(6))
			cyclic++
		}
	}
	if cyclic < 50 || cyclic > 250 {
		t.Errorf("%d configurations with a cycle", cyclic)
	}
	checkNoBitstreamRun(t, "written", streamCases()[2].stream, fabricRows(3))
}

// Promise 59: where RunFabric returns nothing.
func TestRowsOfBitstreams(t *testing.T) {
	for _, k := range runnable() {
		checkNoBitstreamRun(t, k.name, k.stream, nil)
		checkNoBitstreamRun(t, k.name, k.stream, [][]bool{})
		for _, n := range []int{41, 42, 80, 256, 256 + 40, 1<<16 + 1} {
			checkNoBitstreamRun(t, k.name, k.stream, fabricRows(n))
			checkNoBitstreamRun(t, k.name, k.stream, make([][]bool, n))
		}
		for _, n := range []int{1, 2, 7, 40} {
			for i := range n {
				for _, size := range []int{5, 6, 260} {
					rows := fabricRows(n)
					rows[i] = set(size)
					checkNoBitstreamRun(t, k.name, k.stream, rows)
				}
			}
		}
		// What lies behind the rows, or behind the values of a row, is not part of them.
		checkBitstreamRun(t, k.name, k.stream, append(fabricRows(45), allBut(5))[:40])
		if got := impl.RunBitstream(k.stream, [][]bool{allBut(9)[:4]}); len(got) != 1 {
			t.Errorf("%s: run %v", k.name, got)
		}
	}
}

// Promise 59: a changed byte, with the old checksum.
func TestChangedBytesDoNotRun(t *testing.T) {
	for i, k := range runnable() {
		for place, b := range k.stream {
			for x := range 256 {
				// All values take long; for most bitstreams a few have to do.
				if byte(x) == b || i > 0 && (x+place)%37 > 0 {
					continue
				}
				list := slices.Clone(k.stream)
				list[place] = byte(x)
				checkNoBitstreamRun(t, fmt.Sprintf("%s, byte %d", k.name, place), list, fabricRows(2))
			}
		}
		checkBitstreamRun(t, k.name, k.stream, fabricRows(2))
	}
}

// Promise 59: with the right checksum a byte may still be wrong; if it is not, the bitstream is that of another configuration.
func TestChangedBytesWithTheirChecksum(t *testing.T) {
	for _, k := range runnable() {
		ran, refused := 0, 0
		for place := range 331 {
			for x := range 256 {
				if (x+place)%29 > 1 {
					continue
				}
				list := body(k.stream)
				list[place] = byte(x)
				list = checksummed(list)
				checkBitstreamRun(t, fmt.Sprintf("%s, byte %d", k.name, place), list, fabricRows(2))
				if len(impl.RunBitstream(list, fabricRows(2))) > 0 {
					ran++
				} else {
					refused++
				}
			}
		}
		if ran < 300 || refused < 300 {
			t.Errorf("%s: %d lists ran, %d did not", k.name, ran, refused)
		}
	}
}

// Promise 59: a byte too few or too many, or any other length.
func TestLengthsOfBitstreamsThatDoNotRun(t *testing.T) {
	checkNoBitstreamRun(t, "nil", nil, fabricRows(2))
	checkNoBitstreamRun(t, "empty", []byte{}, fabricRows(2))
	checkNoBitstreamRun(t, "nil, no rows", nil, nil)
	checkNoBitstreamRun(t, "nil, too many rows", nil, fabricRows(41))
	for _, k := range runnable() {
		for n := range 700 {
			list := slices.Repeat(k.stream, 3)[:n]
			if n != 333 {
				checkNoBitstreamRun(t, fmt.Sprintf("%s, %d bytes", k.name, n), list, fabricRows(2))
			}
			if n != 331 {
				checkNoBitstreamRun(t, fmt.Sprintf("%s, %d bytes and their checksum", k.name, n), checksummed(slices.Repeat(body(k.stream), 3)[:n]), fabricRows(2))
			}
		}
		for x := range 256 {
			checkNoBitstreamRun(t, k.name+" and a byte", append(slices.Clone(k.stream), byte(x)), fabricRows(2))
			checkNoBitstreamRun(t, k.name+" behind a byte", slices.Concat([]byte{byte(x)}, k.stream), fabricRows(2))
		}
		checkNoBitstreamRun(t, k.name+" without its first byte", k.stream[1:], fabricRows(2))
	}
}

func TestCompilationDoesNotWriteItsArguments(t *testing.T) {
	for _, k := range compiledCircuits() {
		c := roomy(k.c)
		impl.Configure(c)
		impl.Compile(c)
		checkUnwritten(t, k.name, c, k.c)
	}
	for _, k := range invalidCircuits() {
		before := copyOf(k.c)
		impl.Configure(k.c)
		impl.Compile(k.c)
		if !reflect.DeepEqual(k.c, before) {
			t.Errorf("%s: changed: %v, before %v", k.name, k.c, before)
		}
	}
}

func TestRunBitstreamDoesNotWriteItsArguments(t *testing.T) {
	for _, k := range runnable() {
		for n := 330; n <= 333; n++ {
			for _, original := range [][][]bool{fabricRows(9), {set(4), set(5)}} {
				list := append(slices.Clone(k.stream[:n]), 7, 7, 7)
				before, rows := slices.Clone(list), roomyRows(original)
				impl.RunBitstream(list[:n], rows)
				if !bytes.Equal(list, before) {
					t.Errorf("%s: changed: % x, before % x", k.name, list, before)
				}
				checkRowsUnwritten(t, k.name, rows, original)
			}
		}
	}
}

// Spoiling a configuration must change neither the circuit nor another part nor another result.
func TestConfigurationsShareNoMemory(t *testing.T) {
	for _, k := range configCases() {
		c, want := roomy(k.c), k.config()
		first, _ := impl.Configure(c)
		second, _ := impl.Configure(c)
		spoilConfig(t, k.name, first, want)
		checkUnwritten(t, k.name, c, k.c)
		third, _ := impl.Configure(c)
		if !sameConfig(second, want) || !sameConfig(third, want) || !sameConfig(impl.EmptyConfig(), blank()) {
			t.Errorf("%s: two configurations share memory", k.name)
		}
		spoilNumbers(c.Next)
		spoilGates(c.Gates)
		spoilNumbers(c.Outs)
		if !sameConfig(second, want) {
			t.Errorf("%s: the configuration changes with the circuit", k.name)
		}
	}
}

func TestCompiledBitstreamsShareNoMemory(t *testing.T) {
	for _, k := range configCases() {
		c := roomy(k.c)
		first, second := compiled(c), compiled(c)
		want := slices.Clone(second)
		spoilLists(first, 0xaa)
		checkUnwritten(t, k.name, c, k.c)
		if !bytes.Equal(second, want) || !bytes.Equal(compiled(c), want) {
			t.Errorf("%s: two bitstreams share memory", k.name)
		}
	}
}

func TestRunsOfBitstreamsShareNoMemory(t *testing.T) {
	for _, k := range fabricCases() {
		list, rows := modelStream(k.k), roomyRows(k.rows)
		first, second := impl.RunBitstream(list, rows), impl.RunBitstream(list, rows)
		checkSeparateRows(t, k, rows, first, second)
		if !bytes.Equal(list, modelStream(k.k)) {
			t.Errorf("%s: bitstream % x", k.name, list)
		}
		spoilLists(list, 0xaa)
		if !sameRows(second, k.want) || !sameRows(impl.RunBitstream(modelStream(k.k), k.rows), k.want) {
			t.Errorf("%s: a run shares memory with its bitstream", k.name)
		}
	}
}

// A circuit whose next states and outputs are one slice is an ordinary argument.
func TestCompilationOfSharedArguments(t *testing.T) {
	lits := []int{9, 6, 1, 12}
	c := impl.Circuit{Next: lits[:3], Gates: []impl.Gate{{A: 4, B: 2}}, Outs: lits[:3]}
	checkBoth(t, "shared", c)
	if !slices.Equal(lits, []int{9, 6, 1, 12}) {
		t.Errorf("argument %v", lits)
	}
	row := []bool{true}
	stream := compiled(counter())
	if got := impl.RunBitstream(stream, [][]bool{row, row, row, row}); !sameRows(got, rowsOf("000 100 000 100")) {
		t.Errorf("shared rows: %v", got)
	}
}

// Every call starts anew: neither a compilation, nor a failure, nor a run before leaves any state behind.
func TestCompilationKeepsNoState(t *testing.T) {
	for range 3 {
		for _, k := range configCases() {
			checkNoConfiguration(t, "narrow", narrow())
			checkNotCompiled(t, "too many inputs", impl.Circuit{Inputs: 5})
			checkNoBitstreamRun(t, "nil", nil, fabricRows(2))
			if got, ok := impl.Configure(k.c); !ok || !sameConfig(got, k.config()) {
				t.Fatalf("%s: %v, %v", k.name, got, ok)
			}
			if got := compiled(counter()); !bytes.Equal(got, streamCases()[1].stream) {
				t.Fatalf("counter: % x", got)
			}
		}
		for _, k := range fabricCases() {
			if got := impl.RunBitstream(modelStream(k.k), k.rows); !sameRows(got, k.want) {
				t.Fatalf("%s: %v, want %v", k.name, got, k.want)
			}
		}
	}
}
