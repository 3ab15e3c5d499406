package impl

import (
	"slices"
	"testing"
)

func TestQueueKeepsTheOrder(t *testing.T) {
	q := tileQueue{}
	if !q.empty() {
		t.Error("a new queue is not empty")
	}
	added, taken := 0, 0
	for range 30 {
		for range 3 {
			q.add(added * 7)
			added++
		}
		for range 2 {
			if got := q.take(); got != taken*7 {
				t.Fatalf("tile %d, want %d", got, taken*7)
			}
			taken++
		}
	}
	for !q.empty() {
		if got := q.take(); got != taken*7 {
			t.Fatalf("tile %d, want %d", got, taken*7)
		}
		taken++
	}
	if taken != added {
		t.Errorf("%d tiles of %d", taken, added)
	}
}

func TestNeighboursInOrder(t *testing.T) {
	cases := map[int][]int{
		0: {1, 5}, 2: {1, 3, 7}, 4: {3, 9},
		10: {5, 11, 15}, 12: {7, 11, 13, 17}, 14: {9, 13, 19},
		20: {15, 21}, 22: {17, 21, 23}, 24: {19, 23},
	}
	for tile, want := range cases {
		if got := neighbours(tile); !slices.Equal(got, want) {
			t.Errorf("tile %d: %v, want %v", tile, got, want)
		}
	}
}

func TestNeighboursOfEachOther(t *testing.T) {
	count := 0
	for a := range tileCount {
		for _, b := range neighbours(a) {
			count++
			if b < 0 || b >= tileCount || !slices.Contains(neighbours(b), a) {
				t.Errorf("tile %d is beside tile %d", b, a)
			}
		}
	}
	if want := 4 * Side * (Side - 1); count != want {
		t.Errorf("%d neighbours, want %d", count, want)
	}
}

// takenWires has all given tiles in use on one track.
func takenWires(track int, tiles ...int) wires {
	w := wires{}
	for _, tile := range tiles {
		w.take(NetRoute{Track: track, Hops: []Hop{{Tile: tile, From: noTile}}})
	}
	return w
}

func TestTakenWires(t *testing.T) {
	w := takenWires(7, 24, 3)
	w.take(NetRoute{Track: 0, Hops: []Hop{{0, noTile}, {5, 0}}})
	w.take(NetRoute{Track: 2})
	for tile := range tileCount {
		for track := range Tracks {
			want := track == 7 && (tile == 24 || tile == 3) || track == 0 && (tile == 0 || tile == 5)
			if w[tile][track] != want {
				t.Errorf("tile %d, track %d: %v", tile, track, w[tile][track])
			}
		}
	}
}

func TestPathsBetweenWalls(t *testing.T) {
	source := []Hop{{Tile: 0, From: noTile}}
	fork := []Hop{{12, noTile}, {17, 12}, {16, 17}, {7, 12}}
	cases := []struct {
		taken []int
		tree  []Hop
		goal  int
		want  []Hop
	}{
		{nil, source, 0, []Hop{}},
		{nil, source, 6, []Hop{{1, 0}, {6, 1}}},
		{[]int{1}, source, 6, []Hop{{5, 0}, {6, 5}}},
		{[]int{1, 5}, source, 6, nil},
		{[]int{6}, source, 6, nil},
		{[]int{5, 11, 15}, source, 10, nil},
		// One winding way is left.
		{[]int{5, 6, 7, 8, 16, 17, 18, 19}, source, 20, []Hop{{1, 0}, {2, 1}, {3, 2}, {4, 3}, {9, 4}, {14, 9}, {13, 14}, {12, 13}, {11, 12}, {10, 11}, {15, 10}, {20, 15}}},
		{nil, fork, 16, []Hop{}},
		{nil, fork, 11, []Hop{{11, 12}}},
		{nil, fork, 6, []Hop{{6, 7}}},
		{nil, fork, 21, []Hop{{21, 16}}},
		{nil, fork, 23, []Hop{{18, 17}, {23, 18}}},
		{[]int{18, 13}, fork, 23, []Hop{{22, 17}, {23, 22}}},
		{[]int{11, 6}, fork, 10, []Hop{{15, 16}, {10, 15}}},
	}
	for _, k := range cases {
		w := takenWires(3, k.taken...)
		before := w
		got, ok := w.path(3, k.tree, k.goal)
		if ok != (k.want != nil) || !slices.Equal(got, k.want) {
			t.Errorf("from %v to %d past %v: %v, %v, want %v", k.tree, k.goal, k.taken, got, ok, k.want)
		}
		if w != before {
			t.Errorf("from %v to %d past %v: wires changed", k.tree, k.goal, k.taken)
		}
		if got, ok := w.path(4, k.tree, k.goal); !ok || len(got) > 8 {
			t.Errorf("from %v to %d on a free track: %v, %v", k.tree, k.goal, got, ok)
		}
	}
}

func TestRoutingTakesNoWire(t *testing.T) {
	for _, tiles := range [][]int{{3}, {3, 3}, {0, 24}, {12, 0, 4, 12, 20, 24}} {
		for track := range Tracks + 1 {
			w := wires{}
			for lower := range track {
				w[tiles[len(tiles)-1]][lower] = true
			}
			before := w
			got, ok := w.route(9, tiles)
			if w != before {
				t.Fatalf("tiles %v: wires changed", tiles)
			}
			if ok != (track < Tracks) || ok && (got.Net != 9 || got.Track != track || got.Hops[0] != Hop{Tile: tiles[0], From: noTile}) {
				t.Errorf("tiles %v, track %d: %v, %v", tiles, track, got, ok)
			}
			if !ok && (got.Net != 0 || got.Track != 0 || len(got.Hops) != 0) {
				t.Errorf("tiles %v: %v", tiles, got)
			}
		}
	}
}
