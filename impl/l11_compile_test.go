package impl

import (
	"errors"
	"slices"
	"testing"
)

// unroutableCircuit returns a circuit whose last net finds no track.
func unroutableCircuit() Circuit {
	return Circuit{Inputs: 4, Next: []int{27, 24}, Gates: []Gate{
		{A: 6, B: 11}, {A: 9, B: 12}, {A: 4, B: 6}, {A: 3, B: 9}, {A: 14, B: 21}, {A: 6, B: 17}, {A: 16, B: 23},
	}, Outs: []int{19, 22}}
}

func checkNothingLeft(t *testing.T, done compilation) {
	t.Helper()
	if done.circuit.Inputs != 0 || len(done.circuit.Outs) != 0 || done.place != nil || done.routes != nil || done.config.Tiles != nil || done.config.Pads != nil || done.stream != nil {
		t.Errorf("left of the compilation: %v", done)
	}
}

func TestErrorsAreWrapped(t *testing.T) {
	cases := []struct {
		c      Circuit
		stages []stage
		reason error
		text   string
	}{
		{Circuit{Inputs: 5}, []stage{checkCircuit}, errInvalidCircuit, "stage 1: the circuit is invalid"},
		{Circuit{Outs: []int{2}}, []stage{checkCircuit, optimizeCircuit, placeCells}, errInvalidCircuit, "stage 1: the circuit is invalid"},
		{unroutableCircuit(), []stage{checkCircuit, placeCells, routeNets, configureFabric}, errNoRoute, "stage 3: a net cannot be routed"},
		{unroutableCircuit(), []stage{checkCircuit, optimizeCircuit, placeCells, routeNets}, errNoRoute, "stage 4: a net cannot be routed"},
		// Without its cells placed no circuit that has some can be routed.
		{Circuit{Next: []int{2}}, []stage{routeNets}, errNoRoute, "stage 1: a net cannot be routed"},
	}
	for _, k := range cases {
		done, err := compiled(k.c, k.stages)
		checkNothingLeft(t, done)
		if err == nil || err.Error() != k.text {
			t.Errorf("error %v, want %q", err, k.text)
		}
		for _, reason := range []error{errInvalidCircuit, errNoRoute} {
			if errors.Is(err, reason) != (reason == k.reason) {
				t.Errorf("error %v is %v", err, reason)
			}
		}
	}
}

// The stages run one after another, each on what the one before it has left, up to the first one that fails.
func TestStagesRunInOrder(t *testing.T) {
	errStop := errors.New("stop")
	for failing := 1; failing <= 5; failing++ {
		ran := []int{}
		stages := []stage{}
		for number := 1; number <= 4; number++ {
			stages = append(stages, func(p *compilation) error {
				ran = append(ran, number)
				p.place = append(p.place, 10*number)
				if number == failing {
					return errStop
				}
				return nil
			})
		}
		done, err := compiled(Circuit{Inputs: 2}, stages)
		want := []int{1, 2, 3, 4}[:min(failing, 4)]
		if !slices.Equal(ran, want) {
			t.Errorf("stages %v, want %v", ran, want)
		}
		if failing > 4 {
			if err != nil || done.circuit.Inputs != 2 || !slices.Equal(done.place, []int{10, 20, 30, 40}) {
				t.Errorf("%v, %v", done, err)
			}
			continue
		}
		failure := stageError{}
		if !errors.As(err, &failure) || failure.number != failing || !errors.Is(err, errStop) {
			t.Errorf("stage %d fails: %v", failing, err)
		}
		checkNothingLeft(t, done)
	}
	if done, err := compiled(Circuit{Inputs: 3}, nil); err != nil || done.circuit.Inputs != 3 {
		t.Errorf("without stages: %v, %v", done, err)
	}
}

func TestTracksOfNets(t *testing.T) {
	p := compilation{circuit: Circuit{Inputs: 3, Next: []int{2}}, routes: []NetRoute{{Net: 1, Track: 7}, {Net: 4, Track: 0}}}
	if got := p.netTracks(); !slices.Equal(got, []int{NoTrack, 7, NoTrack, NoTrack, 0}) {
		t.Errorf("tracks %v", got)
	}
}

// The source of a hop stands for the tile that drives it, at every place of the fabric.
func TestSourcesOfHops(t *testing.T) {
	for tile := range tileCount {
		for _, next := range neighbours(tile) {
			source := hopSource(Hop{Tile: tile, From: next}, DriveCell)
			if neighbourAt(tile, source) != next {
				t.Errorf("tile %d, driven from tile %d: source %d", tile, next, source)
			}
		}
		for _, start := range []int{DriveCell, DriveInput} {
			if got := hopSource(Hop{Tile: tile, From: noTile}, start); got != start {
				t.Errorf("tile %d, where a net starts: source %d, want %d", tile, got, start)
			}
		}
	}
}

func TestSourcesOfNets(t *testing.T) {
	c := Circuit{Inputs: 2, Next: []int{2}, Gates: []Gate{{A: 2, B: 4}}}
	for i, want := range []int{DriveInput, DriveInput, DriveCell, DriveCell} {
		if got := netSource(c, 1+i); got != want {
			t.Errorf("net %d: source %d, want %d", 1+i, got, want)
		}
	}
	if got := netSource(Circuit{Next: []int{1}}, 1); got != DriveCell {
		t.Errorf("net 1 without inputs: source %d", got)
	}
}
