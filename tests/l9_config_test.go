package tests

import (
	"bytes"
	"encoding/hex"
	"fmt"
	"math"
	"slices"
	"strings"
	"sync"
	"testing"

	"loop.example/fpgatoolchain/impl"
)

func sameTile(a impl.TileConfig, b impl.TileConfig) bool {
	return a.Table == b.Table && slices.Equal(a.Select, b.Select) && a.Register == b.Register && slices.Equal(a.Drive, b.Drive)
}

func sameConfig(a impl.Config, b impl.Config) bool {
	return slices.EqualFunc(a.Tiles, b.Tiles, sameTile) && slices.Equal(a.Pads, b.Pads)
}

// tileOf returns the configuration of a tile: its table, its three selectors, whether it is registered, and its sources.
func tileOf(table int, a int, b int, c int, register bool, drive ...int) impl.TileConfig {
	return impl.TileConfig{Table: table, Select: []int{a, b, c}, Register: register, Drive: drive}
}

// unused returns the configuration of a tile that does nothing.
func unused() impl.TileConfig {
	return tileOf(0, 15, 15, 15, false, 0, 0, 0, 0, 0, 0, 0, 0)
}

// blank returns the empty configuration.
func blank() impl.Config {
	k := impl.Config{Pads: []impl.PadConfig{{Track: 15}, {Track: 15}, {Track: 15}}}
	for range 25 {
		k.Tiles = append(k.Tiles, unused())
	}
	return k
}

// counterConfig returns a configuration as a counter: the lookup table of the next state is in tile 0, the flip-flop in tile 1.
func counterConfig() impl.Config {
	k := blank()
	k.Tiles[0] = tileOf(6, 0, 1, 15, false, 6, 4, 1, 0, 0, 0, 0, 0)
	k.Tiles[1] = tileOf(2, 2, 15, 15, true, 0, 1, 3, 0, 0, 0, 0, 0)
	for tile := 2; tile < 5; tile++ {
		k.Tiles[tile] = tileOf(0, 15, 15, 15, false, 0, 3, 0, 0, 0, 0, 0, 0)
	}
	k.Pads[0] = impl.PadConfig{Track: 1}
	return k
}

// writtenTile is the configuration of a tile and its part of the bitstream.
type writtenTile struct {
	bytes string
	tile  impl.TileConfig
}

// writtenTiles has on every tile each source that the tile may have.
func writtenTiles() []writtenTile {
	return []writtenTile{
		{"14 0f 01 05 01 04 05 05 04 00 06 01 06", tileOf(0x14, 15, 1, 5, true, 4, 5, 5, 4, 0, 6, 1, 6)},
		{"68 06 01 04 00 01 04 04 05 00 04 01 03", tileOf(0x68, 6, 1, 4, false, 1, 4, 4, 5, 0, 4, 1, 3)},
		{"01 06 00 06 00 01 05 00 00 04 03 03 04", tileOf(0x01, 6, 0, 6, false, 1, 5, 0, 0, 4, 3, 3, 4)},
		{"08 01 02 0f 00 03 04 04 01 01 05 00 00", tileOf(0x08, 1, 2, 15, false, 3, 4, 4, 1, 1, 5, 0, 0)},
		{"4c 00 04 0f 01 05 03 05 00 00 01 01 05", tileOf(0x4c, 0, 4, 15, true, 5, 3, 5, 0, 0, 1, 1, 5)},
		{"2c 05 0f 0f 00 05 02 06 01 04 06 05 00", tileOf(0x2c, 5, 15, 15, false, 5, 2, 6, 1, 4, 6, 5, 0)},
		{"80 00 06 01 01 05 02 04 00 04 03 01 02", tileOf(0x80, 0, 6, 1, true, 5, 2, 4, 0, 4, 3, 1, 2)},
		{"db 00 06 0f 01 02 03 04 00 02 05 02 01", tileOf(0xdb, 0, 6, 15, true, 2, 3, 4, 0, 2, 5, 2, 1)},
		{"01 0f 05 02 01 05 02 04 00 01 05 03 01", tileOf(0x01, 15, 5, 2, true, 5, 2, 4, 0, 1, 5, 3, 1)},
		{"c7 00 07 03 00 03 02 00 00 01 00 01 05", tileOf(0xc7, 0, 7, 3, false, 3, 2, 0, 0, 1, 0, 1, 5)},
		{"01 01 01 06 01 06 02 00 01 02 05 04 02", tileOf(0x01, 1, 1, 6, true, 6, 2, 0, 1, 2, 5, 4, 2)},
		{"01 00 04 0f 00 02 00 01 03 05 01 04 04", tileOf(0x01, 0, 4, 15, false, 2, 0, 1, 3, 5, 1, 4, 4)},
		{"f6 01 02 0f 01 01 05 02 04 03 01 01 00", tileOf(0xf6, 1, 2, 15, true, 1, 5, 2, 4, 3, 1, 1, 0)},
		{"20 0f 0f 04 00 01 00 05 02 03 04 04 00", tileOf(0x20, 15, 15, 4, false, 1, 0, 5, 2, 3, 4, 4, 0)},
		{"76 05 03 07 01 01 05 02 01 00 00 03 00", tileOf(0x76, 5, 3, 7, true, 1, 5, 2, 1, 0, 0, 3, 0)},
		{"ff 01 03 00 00 00 06 02 01 04 00 05 01", tileOf(0xff, 1, 3, 0, false, 0, 6, 2, 1, 4, 0, 5, 1)},
		{"04 05 01 05 01 01 05 02 00 03 00 04 02", tileOf(0x04, 5, 1, 5, true, 1, 5, 2, 0, 3, 0, 4, 2)},
		{"ff 07 02 03 00 05 04 01 02 00 01 03 04", tileOf(0xff, 7, 2, 3, false, 5, 4, 1, 2, 0, 1, 3, 4)},
		{"bd 07 0f 03 00 00 03 04 00 02 00 05 01", tileOf(0xbd, 7, 15, 3, false, 0, 3, 4, 0, 2, 0, 5, 1)},
		{"a1 00 04 07 00 05 01 01 00 02 02 00 03", tileOf(0xa1, 0, 4, 7, false, 5, 1, 1, 0, 2, 2, 0, 3)},
		{"80 01 00 05 01 00 02 02 04 02 01 01 00", tileOf(0x80, 1, 0, 5, true, 0, 2, 2, 4, 2, 1, 1, 0)},
		{"e9 04 07 07 01 02 04 00 01 03 03 02 04", tileOf(0xe9, 4, 7, 7, true, 2, 4, 0, 1, 3, 3, 2, 4)},
		{"46 03 03 05 00 04 01 03 02 01 03 02 00", tileOf(0x46, 3, 3, 5, false, 4, 1, 3, 2, 1, 3, 2, 0)},
		{"74 0f 06 07 01 04 03 00 02 04 02 01 03", tileOf(0x74, 15, 6, 7, true, 4, 3, 0, 2, 4, 2, 1, 3)},
		{"31 02 05 02 01 03 02 00 02 00 01 00 03", tileOf(0x31, 2, 5, 2, true, 3, 2, 0, 2, 0, 1, 0, 3)},
	}
}

func writtenConfig() impl.Config {
	k := impl.Config{Pads: []impl.PadConfig{{Track: 7, Invert: true}, {Track: 15, Invert: true}, {Track: 0}}}
	for _, w := range writtenTiles() {
		k.Tiles = append(k.Tiles, w.tile)
	}
	return k
}

// streamOf reads a bitstream that is written with two digits for every byte.
func streamOf(parts ...string) []byte {
	list, err := hex.DecodeString(strings.ReplaceAll(strings.Join(parts, ""), " ", ""))
	if err != nil {
		panic(err)
	}
	return list
}

// streamCase is a configuration and its bitstream.
type streamCase struct {
	name   string
	k      impl.Config
	stream []byte
}

// streamCases have checksums that were computed outside of Go.
func streamCases() []streamCase {
	nothing := "00 0f 0f 0f 00 00 00 00 00 00 00 00 00"
	passing := "00 0f 0f 0f 00 00 03 00 00 00 00 00 00"
	written := ""
	for _, w := range writtenTiles() {
		written += w.bytes
	}
	return []streamCase{
		{"empty", blank(), streamOf(strings.Repeat(nothing, 25), "0f 00 0f 00 0f 00 9c 56")},
		{"counter", counterConfig(), streamOf(
			"06 00 01 0f 00 06 04 01 00 00 00 00 00", "02 02 0f 0f 01 00 01 03 00 00 00 00 00", strings.Repeat(passing, 3),
			strings.Repeat(nothing, 20), "01 00 0f 00 0f 00 1a 1d")},
		{"written", writtenConfig(), streamOf(written, "07 01 0f 01 00 00 cc 32")},
	}
}

// sourcesOf returns the sources that the wires of a tile may have.
func sourcesOf(tile int) string {
	rows := [5][5]string{
		{"01456", "01345", "01345", "01345", "0135"},
		{"012456", "012345", "012345", "012345", "01235"},
		{"012456", "012345", "012345", "012345", "01235"},
		{"012456", "012345", "012345", "012345", "01235"},
		{"0124", "01234", "01234", "01234", "0123"},
	}
	return rows[tile/5][tile%5]
}

// numberField is a number in a configuration, the values that it may have, and the place of its byte in the bitstream.
type numberField struct {
	name    string
	at      func(impl.Config) *int
	allowed func(int) bool
	place   int
}

func isByte(x int) bool {
	return x >= 0 && x <= 255
}

func isTrack(x int) bool {
	return x >= 0 && x <= 7 || x == 15
}

func isSource(tile int) func(int) bool {
	return func(x int) bool {
		return x >= 0 && x <= 6 && strings.Contains(sourcesOf(tile), fmt.Sprint(x))
	}
}

// tileFields returns the numbers of the configuration of a tile.
func tileFields(tile int) []numberField {
	name, place := fmt.Sprintf("tile %d, ", tile), 13*tile
	fields := []numberField{{name + "table", func(k impl.Config) *int { return &k.Tiles[tile].Table }, isByte, place}}
	for n := range 3 {
		fields = append(fields, numberField{fmt.Sprint(name, "selector ", n), func(k impl.Config) *int { return &k.Tiles[tile].Select[n] }, isTrack, place + 1 + n})
	}
	for n := range 8 {
		fields = append(fields, numberField{fmt.Sprint(name, "source ", n), func(k impl.Config) *int { return &k.Tiles[tile].Drive[n] }, isSource(tile), place + 5 + n})
	}
	return fields
}

// numberFields returns all numbers of a configuration.
var numberFields = sync.OnceValue(func() []numberField {
	fields := []numberField{}
	for tile := range 25 {
		fields = append(fields, tileFields(tile)...)
	}
	for pad := range 3 {
		fields = append(fields, numberField{fmt.Sprint("pad ", pad), func(k impl.Config) *int { return &k.Pads[pad].Track }, isTrack, 325 + 2*pad})
	}
	return fields
})

// flagField is a flag in a configuration and the place of its byte in the bitstream.
type flagField struct {
	name  string
	at    func(impl.Config) *bool
	place int
}

var flagFields = sync.OnceValue(func() []flagField {
	fields := []flagField{}
	for tile := range 25 {
		fields = append(fields, flagField{fmt.Sprintf("tile %d, register", tile), func(k impl.Config) *bool { return &k.Tiles[tile].Register }, 13*tile + 4})
	}
	for pad := range 3 {
		fields = append(fields, flagField{fmt.Sprintf("pad %d, inversion", pad), func(k impl.Config) *bool { return &k.Pads[pad].Invert }, 326 + 2*pad})
	}
	return fields
})

// checksummed returns the bytes with the checksum that belongs to them behind them. Byte i of n counts once more with every byte behind it: n-i-1 times by 257.
func checksummed(list []byte) []byte {
	power, sum := 1, 0
	for _, b := range slices.Backward(list) {
		sum = (sum + (int(b)+1)*power) % 65521
		power = power * 257 % 65521
	}
	sum = (sum + power) % 65521
	return slices.Concat(list, []byte{byte(sum / 256), byte(sum % 256)})
}

// body returns a bitstream without its checksum.
func body(stream []byte) []byte {
	return slices.Clone(stream[:331])
}

// modelStream puts every field of a valid configuration into its place.
func modelStream(k impl.Config) []byte {
	list := make([]byte, 331)
	for _, f := range numberFields() {
		list[f.place] = byte(*f.at(k))
	}
	for _, f := range flagFields() {
		if *f.at(k) {
			list[f.place]++
		}
	}
	return checksummed(list)
}

func isNoConfig(k impl.Config) bool {
	return len(k.Tiles) == 0 && len(k.Pads) == 0
}

// checkConfig requires promise 4 of a valid configuration and its bitstream.
func checkConfig(t *testing.T, name string, k impl.Config, stream []byte) {
	t.Helper()
	if !impl.ConfigValid(k) {
		t.Fatalf("%s: not valid: %v", name, k)
	}
	if got := impl.EncodeConfig(k); !bytes.Equal(got, stream) {
		t.Fatalf("%s: bitstream % x, want % x", name, got, stream)
	}
	got, ok := impl.DecodeConfig(stream)
	if !ok || !sameConfig(got, k) {
		t.Fatalf("%s: decoded %v, %v, want %v", name, got, ok, k)
	}
}

func checkNoConfig(t *testing.T, name string, k impl.Config) {
	t.Helper()
	if impl.ConfigValid(k) {
		t.Fatalf("%s: valid: %v", name, k)
	}
	if got := impl.EncodeConfig(k); len(got) != 0 {
		t.Fatalf("%s: bitstream % x", name, got)
	}
}

func checkNotDecoded(t *testing.T, name string, list []byte) {
	t.Helper()
	if k, ok := impl.DecodeConfig(list); ok || !isNoConfig(k) {
		t.Fatalf("%s: decoded % x: %v, %v", name, list, k, ok)
	}
}

func TestConfigConstants(t *testing.T) {
	if impl.NoTrack != 15 {
		t.Errorf("NoTrack is %d", impl.NoTrack)
	}
	sources := []int{impl.DriveNone, impl.DriveCell, impl.DriveUp, impl.DriveLeft, impl.DriveRight, impl.DriveDown, impl.DriveInput}
	if !slices.Equal(sources, inOrder(7)) {
		t.Errorf("sources %v", sources)
	}
}

// Promises 4 and 54.
func TestKnownBitstreams(t *testing.T) {
	for _, k := range streamCases() {
		if len(k.stream) != 333 {
			t.Fatalf("%s: %d bytes", k.name, len(k.stream))
		}
		checkConfig(t, k.name, k.k, k.stream)
		if got := modelStream(k.k); !bytes.Equal(got, k.stream) {
			t.Errorf("%s: model % x", k.name, got)
		}
	}
}

// Promise 54.
func TestEmptyConfig(t *testing.T) {
	k := impl.EmptyConfig()
	if !sameConfig(k, blank()) {
		t.Errorf("%v", k)
	}
	checkConfig(t, "empty", k, modelStream(k))
}

// Promise 54: with one tile less, or a source outside the fabric in a corner tile, the empty configuration is invalid.
func TestSpoiledEmptyConfig(t *testing.T) {
	k := impl.EmptyConfig()
	k.Tiles = k.Tiles[:24]
	checkNoConfig(t, "one tile less", k)
	corners := map[int][]int{
		0:  {impl.DriveUp, impl.DriveLeft},
		4:  {impl.DriveUp, impl.DriveRight, impl.DriveInput},
		20: {impl.DriveDown, impl.DriveLeft, impl.DriveInput},
		24: {impl.DriveDown, impl.DriveRight, impl.DriveInput},
	}
	for tile, sources := range corners {
		for _, source := range sources {
			for track := range impl.Tracks {
				k := impl.EmptyConfig()
				k.Tiles[tile].Drive[track] = source
				checkNoConfig(t, fmt.Sprintf("tile %d, track %d, source %d", tile, track, source), k)
			}
		}
	}
}

// farNumbers are no values of any field; some become values if they are cut off, or if their sign or all but the remainder is lost.
func farNumbers() []int {
	return []int{-1, -2, -3, -5, -8, -15, -16, -128, -255, -256, -257, -241, math.MinInt, math.MinInt + 1, math.MinInt32, math.MinInt8,
		256, 257, 258, 261, 262, 263, 271, 272, 511, 512, 527, 1 << 16, 1<<16 + 1, 1 << 31, 1 << 32, 1<<32 + 1, 1<<32 + 6, 1<<32 + 15, -1 << 32, 1 - 1<<32, math.MaxInt32, math.MaxInt - 1, math.MaxInt}
}

// checkNumber sets a field of a configuration with this bitstream to a value, and back again.
func checkNumber(t *testing.T, f numberField, k impl.Config, stream []byte, x int) {
	t.Helper()
	name := fmt.Sprintf("%s: %d", f.name, x)
	before := *f.at(k)
	*f.at(k) = x
	if f.allowed(x) {
		list := body(stream)
		list[f.place] = byte(x)
		checkConfig(t, name, k, checksummed(list))
	} else {
		checkNoConfig(t, name, k)
	}
	*f.at(k) = before
}

// Promise 4, for every table, selector, source and track of a pad, and for many numbers that are none.
func TestNumbersOfConfigs(t *testing.T) {
	numbers := farNumbers()
	for x := range 32 {
		numbers = append(numbers, x, 255-x)
	}
	for _, s := range streamCases() {
		for _, f := range numberFields() {
			for _, x := range numbers {
				checkNumber(t, f, s.k, s.stream, x)
			}
		}
	}
}

func TestTablesOfConfigs(t *testing.T) {
	for _, s := range streamCases() {
		for tile := range 25 {
			for x := -2; x < 259; x++ {
				checkNumber(t, tileFields(tile)[0], s.k, s.stream, x)
			}
		}
	}
}

// Promise 4.
func TestFlagsOfConfigs(t *testing.T) {
	for _, s := range streamCases() {
		for _, f := range flagFields() {
			*f.at(s.k) = !*f.at(s.k)
			list := body(s.stream)
			list[f.place] ^= 1
			checkConfig(t, f.name, s.k, checksummed(list))
			*f.at(s.k) = !*f.at(s.k)
		}
	}
}

// namedConfig is a configuration that tests can name.
type namedConfig struct {
	name string
	k    impl.Config
}

// misshapen returns, for every list of the configuration that a function makes, this configuration with a list too short, too long, empty, or nil.
func misshapen(name string, build func() impl.Config) []namedConfig {
	list := []namedConfig{}
	add := func(part string, change func(*impl.Config)) {
		k := build()
		change(&k)
		list = append(list, namedConfig{name + ", " + part, k})
	}
	add("one tile less", func(k *impl.Config) { k.Tiles = k.Tiles[:24] })
	add("without the first tile", func(k *impl.Config) { k.Tiles = k.Tiles[1:] })
	add("one tile more", func(k *impl.Config) { k.Tiles = append(k.Tiles, unused()) })
	add("twice as many tiles", func(k *impl.Config) { k.Tiles = slices.Repeat(k.Tiles, 2) })
	add("one tile", func(k *impl.Config) { k.Tiles = k.Tiles[:1] })
	add("no tiles", func(k *impl.Config) { k.Tiles = k.Tiles[:0] })
	add("nil tiles", func(k *impl.Config) { k.Tiles = nil })
	add("one pad less", func(k *impl.Config) { k.Pads = k.Pads[:2] })
	add("one pad more", func(k *impl.Config) { k.Pads = append(k.Pads, impl.PadConfig{Track: 15}) })
	add("no pads", func(k *impl.Config) { k.Pads = k.Pads[:0] })
	add("nil pads", func(k *impl.Config) { k.Pads = nil })
	for tile := range 25 {
		at := fmt.Sprintf("tile %d, ", tile)
		add(at+"nothing", func(k *impl.Config) { k.Tiles[tile] = impl.TileConfig{} })
		add(at+"one selector less", func(k *impl.Config) { k.Tiles[tile].Select = k.Tiles[tile].Select[:2] })
		add(at+"one selector more", func(k *impl.Config) { k.Tiles[tile].Select = append(k.Tiles[tile].Select, 15) })
		add(at+"no selectors", func(k *impl.Config) { k.Tiles[tile].Select = []int{} })
		add(at+"nil selectors", func(k *impl.Config) { k.Tiles[tile].Select = nil })
		add(at+"one source less", func(k *impl.Config) { k.Tiles[tile].Drive = k.Tiles[tile].Drive[:7] })
		add(at+"one source more", func(k *impl.Config) { k.Tiles[tile].Drive = append(k.Tiles[tile].Drive, 0) })
		add(at+"no sources", func(k *impl.Config) { k.Tiles[tile].Drive = []int{} })
		add(at+"nil sources", func(k *impl.Config) { k.Tiles[tile].Drive = nil })
		// The bitstream of these would have the right length.
		add(at+"a source as a selector", func(k *impl.Config) {
			s := &k.Tiles[tile]
			s.Select, s.Drive = append(s.Select, 0), s.Drive[1:]
		})
		add(at+"a selector as a source", func(k *impl.Config) {
			s := &k.Tiles[tile]
			s.Select, s.Drive = s.Select[:2], append(s.Drive, 0)
		})
	}
	return list
}

// invalidConfigs returns configurations that are invalid for their shapes or for one number.
func invalidConfigs() []namedConfig {
	list := []namedConfig{{"nothing", impl.Config{}}, {"empty lists", impl.Config{Tiles: []impl.TileConfig{}, Pads: []impl.PadConfig{}}},
		{"no settings", impl.Config{Tiles: make([]impl.TileConfig, 25), Pads: make([]impl.PadConfig, 3)}}}
	list = append(list, misshapen("empty", blank)...)
	list = append(list, misshapen("counter", counterConfig)...)
	list = append(list, misshapen("written", writtenConfig)...)
	for i, f := range numberFields() {
		k := counterConfig()
		*f.at(k) = farNumbers()[i%len(farNumbers())]
		list = append(list, namedConfig{"far number in " + f.name, k})
	}
	return list
}

// Promise 54.
func TestInvalidConfigsAreNotEncoded(t *testing.T) {
	for _, k := range invalidConfigs() {
		checkNoConfig(t, k.name, k.k)
	}
}

// mixedConfig makes a valid configuration from a number, with and without much in use.
func mixedConfig(seed int) impl.Config {
	x := uint32(seed)*2654435761 + 11
	pick := func(n int) int {
		x = x*1664525 + 1013904223
		return int(x>>8) % n
	}
	sparse := pick(4)
	k := blank()
	for _, f := range numberFields() {
		if pick(4) < sparse {
			continue
		}
		values := []int{}
		for v := range 256 {
			if f.allowed(v) {
				values = append(values, v)
			}
		}
		*f.at(k) = values[pick(len(values))]
	}
	for _, f := range flagFields() {
		*f.at(k) = pick(2) == 1
	}
	return k
}

// Promise 4.
func TestMixedConfigs(t *testing.T) {
	for seed := range 500 {
		k := mixedConfig(seed)
		checkConfig(t, fmt.Sprint("mixed configuration ", seed), k, modelStream(k))
	}
}

// Promise 4: with the right checksum a list is accepted exactly if every byte may be what it is, and then it is the bitstream of what it decodes to.
func TestEveryByteWithItsChecksum(t *testing.T) {
	allowed := make([]func(int) bool, 331)
	for _, f := range numberFields() {
		allowed[f.place] = f.allowed
	}
	for _, f := range flagFields() {
		allowed[f.place] = func(x int) bool { return x == 0 || x == 1 }
	}
	for _, s := range streamCases() {
		for place := range allowed {
			for x := range 256 {
				list := body(s.stream)
				list[place] = byte(x)
				list = checksummed(list)
				if !allowed[place](x) {
					checkNotDecoded(t, fmt.Sprintf("%s, byte %d", s.name, place), list)
					continue
				}
				k, ok := impl.DecodeConfig(list)
				if !ok || !impl.ConfigValid(k) || !bytes.Equal(modelStream(k), list) || !bytes.Equal(impl.EncodeConfig(k), list) {
					t.Fatalf("%s, byte %d: decoded % x: %v, %v", s.name, place, list, k, ok)
				}
			}
		}
	}
}

// Promise 55.
func TestEveryChangedByte(t *testing.T) {
	streams := [][]byte{}
	for _, s := range streamCases() {
		streams = append(streams, s.stream)
	}
	streams = append(streams, modelStream(mixedConfig(0)))
	for i, stream := range streams {
		for place, b := range stream {
			for x := range 256 {
				if byte(x) == b {
					continue
				}
				stream[place] = byte(x)
				checkNotDecoded(t, fmt.Sprintf("bitstream %d, byte %d", i, place), stream)
			}
			stream[place] = b
		}
		if _, ok := impl.DecodeConfig(stream); !ok {
			t.Fatalf("bitstream %d is not accepted", i)
		}
	}
}

// Of all checksums only one is right; 65521 more than the right one, where two bytes hold it, is as wrong as any other.
func TestEveryChecksum(t *testing.T) {
	for _, s := range streamCases() {
		list := slices.Clone(s.stream)
		for sum := range 1 << 16 {
			list[331], list[332] = byte(sum>>8), byte(sum)
			if bytes.Equal(list, s.stream) {
				continue
			}
			checkNotDecoded(t, s.name, list)
		}
	}
}

// smallSums returns configurations whose checksum is at most 14, so that two bytes hold 65521 more as well.
func smallSums() []impl.Config {
	found := []impl.Config{}
	list := body(streamCases()[0].stream)
	for x := range 1 << 16 {
		high, low := byte(x>>8), byte(x)
		list[13*12], list[13*20] = high, low
		if stream := checksummed(list); stream[331] == 0 && stream[332] <= 14 {
			k := blank()
			k.Tiles[12].Table, k.Tiles[20].Table = int(high), int(low)
			found = append(found, k)
		}
	}
	return found
}

func TestChecksumsPastTheModulus(t *testing.T) {
	small := smallSums()
	if len(small) < 5 {
		t.Fatalf("%d configurations", len(small))
	}
	for _, k := range small {
		stream := modelStream(k)
		checkConfig(t, "small checksum", k, stream)
		sum := 65521 + int(stream[332])
		stream[331], stream[332] = byte(sum>>8), byte(sum)
		checkNotDecoded(t, "a checksum past the modulus", stream)
	}
}

// Two changed bytes can leave the checksum as it was; then the list is the bitstream of another configuration.
func TestTwoChangedBytes(t *testing.T) {
	for _, s := range streamCases() {
		same := 0
		for _, tiles := range [][2]int{{0, 1}, {3, 17}, {11, 12}, {24, 9}} {
			list := body(s.stream)
			for x := range 1 << 16 {
				high, low := byte(x>>8), byte(x)
				list[13*tiles[0]], list[13*tiles[1]] = high, low
				stream := checksummed(list)
				if !bytes.Equal(stream[331:], s.stream[331:]) {
					continue
				}
				same++
				k := s.k
				k.Tiles = slices.Clone(s.k.Tiles)
				k.Tiles[tiles[0]].Table, k.Tiles[tiles[1]].Table = int(high), int(low)
				checkConfig(t, s.name, k, stream)
			}
		}
		// Four times it is the bitstream itself.
		if same <= 4 {
			t.Errorf("%s: no other configuration has its checksum", s.name)
		}
	}
}

func TestLengthsOfBitstreams(t *testing.T) {
	checkNotDecoded(t, "nil", nil)
	checkNotDecoded(t, "empty", []byte{})
	for _, s := range streamCases() {
		for n := range 700 {
			list := slices.Repeat(s.stream, 3)[:n]
			if n != 333 {
				checkNotDecoded(t, fmt.Sprintf("%s, %d bytes", s.name, n), list)
			}
			checkNotDecoded(t, fmt.Sprintf("%s, last %d bytes", s.name, n), slices.Repeat(s.stream, 3)[999-n:][:min(n, 332)])
			// The checksum itself is right here.
			whole := checksummed(slices.Repeat(body(s.stream), 3)[:n])
			if n != 331 {
				checkNotDecoded(t, fmt.Sprintf("%s, %d bytes and their checksum", s.name, n), whole)
			}
		}
		for x := range 256 {
			checkNotDecoded(t, s.name+" and a byte", append(slices.Clone(s.stream), byte(x)))
			checkNotDecoded(t, s.name+" behind a byte", slices.Concat([]byte{byte(x)}, s.stream))
		}
	}
}

// A length of which only the lower bits are right is wrong.
func TestVeryLongBitstreams(t *testing.T) {
	stream := streamCases()[0].stream
	for _, more := range []int{256, 1 << 16, 1 << 20} {
		checkNotDecoded(t, "bitstream and more", slices.Concat(stream, make([]byte, more)))
		checkNotDecoded(t, "bitstream behind more", slices.Concat(make([]byte, more), stream))
	}
}

// What lies between the length and the capacity of a list is not part of it.
func TestLengthsWithSpareCapacity(t *testing.T) {
	for _, s := range streamCases() {
		whole := append(slices.Clone(s.stream), 1, 2, 3)
		checkNotDecoded(t, s.name, whole[:332])
		if k, ok := impl.DecodeConfig(whole[:333]); !ok || !sameConfig(k, s.k) {
			t.Errorf("%s: decoded %v, %v", s.name, k, ok)
		}
		k := s.k
		k.Tiles = slices.Concat(k.Tiles, []impl.TileConfig{{}, {}})[:25]
		checkConfig(t, s.name, k, s.stream)
		k.Tiles = k.Tiles[:24]
		checkNoConfig(t, s.name, k)
	}
}

// roomyConfig returns a copy of k with spare capacity behind each of its slices, in which every number is -7.
func roomyConfig(k impl.Config) impl.Config {
	spare := []impl.TileConfig{{Table: -7}, {Table: -7}}
	tiles := slices.Clone(k.Tiles)
	for i := range tiles {
		tiles[i].Select, tiles[i].Drive = roomyPlace(tiles[i].Select), roomyPlace(tiles[i].Drive)
	}
	return impl.Config{
		Tiles: slices.Concat(tiles, spare)[:len(tiles)],
		Pads:  slices.Concat(k.Pads, []impl.PadConfig{{Track: -7}, {Track: -7}})[:len(k.Pads)],
	}
}

// checkConfigUnwritten requires that k is roomyConfig(original), spare capacity included.
func checkConfigUnwritten(t *testing.T, name string, k impl.Config, original impl.Config) {
	t.Helper()
	if !sameConfig(k, original) {
		t.Fatalf("%s: changed: %v, before %v", name, k, original)
	}
	for i := range k.Tiles {
		checkPlaceUnwritten(t, name, k.Tiles[i].Select, original.Tiles[i].Select)
		checkPlaceUnwritten(t, name, k.Tiles[i].Drive, original.Tiles[i].Drive)
	}
	for _, tile := range k.Tiles[len(k.Tiles) : len(k.Tiles)+2] {
		if !sameTile(tile, impl.TileConfig{Table: -7}) {
			t.Errorf("%s: spare tile changed: %v", name, tile)
		}
	}
	for _, pad := range k.Pads[len(k.Pads) : len(k.Pads)+2] {
		if pad != (impl.PadConfig{Track: -7}) {
			t.Errorf("%s: spare pad changed: %v", name, pad)
		}
	}
}

func TestConfigsAreNotWritten(t *testing.T) {
	configs := invalidConfigs()
	for _, s := range streamCases() {
		configs = append(configs, namedConfig{s.name, s.k})
	}
	for _, k := range configs {
		argument := roomyConfig(k.k)
		impl.ConfigValid(argument)
		impl.EncodeConfig(argument)
		checkConfigUnwritten(t, k.name, argument, k.k)
	}
}

func TestBitstreamsAreNotWritten(t *testing.T) {
	for _, s := range streamCases() {
		for n := 320; n <= 333; n++ {
			for _, last := range []byte{s.stream[n-1], s.stream[n-1] + 1} {
				list := append(slices.Clone(s.stream[:n]), 7, 7, 7)
				list[n-1] = last
				before := slices.Clone(list)
				impl.DecodeConfig(list[:n])
				if !bytes.Equal(list, before) {
					t.Errorf("%s: changed: % x, before % x", s.name, list, before)
				}
			}
		}
	}
}

// spoilConfig changes all of a configuration but its last part, list by list, and requires each time that nothing else changes with it.
func spoilConfig(t *testing.T, name string, k impl.Config, original impl.Config) {
	t.Helper()
	for i := range k.Tiles {
		spoilNumbers(k.Tiles[i].Select)
		k.Tiles[i].Select = slices.Clone(original.Tiles[i].Select)
		if !sameConfig(k, original) {
			t.Fatalf("%s: the selectors of tile %d share memory", name, i)
		}
		spoilNumbers(k.Tiles[i].Drive)
		k.Tiles[i].Drive = slices.Clone(original.Tiles[i].Drive)
		if !sameConfig(k, original) {
			t.Fatalf("%s: the sources of tile %d share memory", name, i)
		}
	}
	spoilLists(k.Pads, impl.PadConfig{Track: -100, Invert: true})
	spoilLists(k.Tiles, impl.TileConfig{Table: -100, Register: true})
}

func TestConfigsShareNoMemory(t *testing.T) {
	a, b := impl.EmptyConfig(), impl.EmptyConfig()
	spoilConfig(t, "empty", a, blank())
	if !sameConfig(b, blank()) || !sameConfig(impl.EmptyConfig(), blank()) {
		t.Error("two empty configurations share memory")
	}
	for _, s := range streamCases() {
		list := slices.Clone(s.stream)
		first, _ := impl.DecodeConfig(list)
		second, _ := impl.DecodeConfig(list)
		clear(list)
		spoilConfig(t, s.name, first, s.k)
		third, _ := impl.DecodeConfig(s.stream)
		if !sameConfig(second, s.k) || !sameConfig(third, s.k) || !slices.Equal(list, make([]byte, 333)) {
			t.Errorf("%s: decoded configurations share memory", s.name)
		}
	}
}

func TestBitstreamsShareNoMemory(t *testing.T) {
	for _, s := range streamCases() {
		k := roomyConfig(s.k)
		first, second := impl.EncodeConfig(k), impl.EncodeConfig(k)
		spoilLists(first, 0xaa)
		if !bytes.Equal(second, s.stream) || !bytes.Equal(impl.EncodeConfig(k), s.stream) {
			t.Errorf("%s: bitstreams share memory", s.name)
		}
		checkConfigUnwritten(t, s.name, k, s.k)
		spoilConfig(t, s.name, k, s.k)
		if !bytes.Equal(second, s.stream) {
			t.Errorf("%s: the bitstream changes with the configuration", s.name)
		}
	}
}

// A configuration whose tiles have the same lists, which are one piece of memory, is an ordinary argument.
func TestEncodingOfSharedLists(t *testing.T) {
	numbers := []int{0, 1, 0, 1, 1, 1, 0, 0}
	k := blank()
	for tile := range k.Tiles {
		k.Tiles[tile] = impl.TileConfig{Table: tile, Select: numbers[:3], Drive: numbers}
	}
	checkConfig(t, "shared lists", k, modelStream(k))
	if !slices.Equal(numbers, []int{0, 1, 0, 1, 1, 1, 0, 0}) {
		t.Errorf("argument %v", numbers)
	}
}

// Every checksum starts anew: no call before, accepted or not, leaves any state behind.
func TestEncodingKeepsNoState(t *testing.T) {
	for range 3 {
		for _, s := range streamCases() {
			checkNoConfig(t, "nothing", impl.Config{})
			checkNotDecoded(t, s.name, s.stream[:332])
			checkConfig(t, s.name, s.k, s.stream)
		}
	}
}
