package impl

import (
	"slices"
	"testing"
)

// Every wire depends on the two tracks before its own: without memory that would be more calls than can be made.
func TestMemoizedAsksOnce(t *testing.T) {
	calls := map[wire]int{}
	ask := memoized(func(w wire, ask func(wire) bool) bool {
		calls[w]++
		if w == (wire{0, 0}) {
			return true
		}
		before := wire{w.tile, w.track - 1}
		if w.track == 0 {
			before = wire{w.tile - 1, Tracks - 1}
		}
		return ask(before) != ask(before) || !ask(before)
	})
	for range 3 {
		for tile := range tileCount {
			for track := range Tracks {
				if got := ask(wire{tile, track}); got != (track%2 == 0) {
					t.Errorf("tile %d, track %d: %v", tile, track, got)
				}
			}
		}
	}
	if len(calls) != tileCount*Tracks {
		t.Errorf("%d wires", len(calls))
	}
	for w, count := range calls {
		if count != 1 {
			t.Errorf("%v: %d times", w, count)
		}
	}
}

// The answer for a wire that asks about itself is false until it is known.
func TestMemoizedWithinItself(t *testing.T) {
	within := []bool{}
	ask := memoized(func(w wire, ask func(wire) bool) bool {
		next := wire{(w.tile + 1) % 3, w.track}
		answer := ask(next)
		within = append(within, answer)
		return !answer
	})
	for tile, want := range []bool{true, false, true} {
		if got := ask(wire{tile, 5}); got != want {
			t.Errorf("tile %d: %v", tile, got)
		}
	}
	if !slices.Equal(within, []bool{false, true, false}) {
		t.Errorf("within: %v", within)
	}
}

func TestFeedersOfEverySource(t *testing.T) {
	cases := []struct {
		source   int
		register bool
		want     []wire
	}{
		{DriveNone, false, nil},
		{DriveInput, false, nil},
		{DriveCell, true, nil},
		{DriveCell, false, []wire{{10, 7}, {10, 0}}},
		{DriveUp, true, []wire{{5, 3}}},
		{DriveRight, false, []wire{{11, 3}}},
		{DriveDown, false, []wire{{15, 3}}},
	}
	for _, c := range cases {
		k := EmptyConfig()
		k.Tiles[10].Select = []int{7, NoTrack, 0}
		k.Tiles[10].Register = c.register
		k.Tiles[10].Drive[3] = c.source
		if got := feeders(k, wire{10, 3}); !slices.Equal(got, c.want) {
			t.Errorf("source %d, registered %v: %v, want %v", c.source, c.register, got, c.want)
		}
	}
	k := EmptyConfig()
	k.Tiles[11].Drive[6] = DriveLeft
	if got := feeders(k, wire{11, 6}); !slices.Equal(got, []wire{{10, 6}}) {
		t.Errorf("source on the left: %v", got)
	}
}

func TestReadingOfTracks(t *testing.T) {
	odd := func(w wire) bool { return (w.tile+w.track)%2 == 1 }
	for tile := range tileCount {
		for track := range Tracks {
			if got := readTrack(tile, track, odd); got != ((tile+track)%2 == 1) {
				t.Errorf("tile %d, track %d: %v", tile, track, got)
			}
		}
		if readTrack(tile, NoTrack, odd) {
			t.Errorf("tile %d without a track", tile)
		}
	}
}

func TestLookUpOfEveryEntry(t *testing.T) {
	odd := func(w wire) bool { return w.track%2 == 1 }
	for x := range 8 {
		setting := TileConfig{Table: 1 << x}
		for n := range LutInputs {
			setting.Select = append(setting.Select, 2*n+x>>n&1)
		}
		if !lookUp(4, setting, odd) {
			t.Errorf("entry %d of table %d is 0", x, setting.Table)
		}
		setting.Table = 255 - setting.Table
		if lookUp(4, setting, odd) {
			t.Errorf("entry %d of table %d is 1", x, setting.Table)
		}
	}
}
