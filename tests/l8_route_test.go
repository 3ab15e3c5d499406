package tests

import (
	"math"
	"reflect"
	"slices"
	"testing"

	"loop.example/fpgatoolchain/impl"
)

// line returns a route along the tiles, every one driven by the one before it.
func line(net int, track int, tiles ...int) impl.NetRoute {
	r := impl.NetRoute{Net: net, Track: track, Hops: []impl.Hop{{Tile: tiles[0], From: -1}}}
	return branched(r, tiles...)
}

// branched returns a route with a further path: its first tile is in the route already.
func branched(r impl.NetRoute, path ...int) impl.NetRoute {
	for i, tile := range path[1:] {
		r.Hops = append(r.Hops, impl.Hop{Tile: tile, From: path[i]})
	}
	return r
}

func sameRoute(a impl.NetRoute, b impl.NetRoute) bool {
	return a.Net == b.Net && a.Track == b.Track && slices.Equal(a.Hops, b.Hops)
}

func sameRoutes(a []impl.NetRoute, b []impl.NetRoute) bool {
	return slices.EqualFunc(a, b, sameRoute)
}

// modelWires holds for every track and tile whether a net uses it.
type modelWires [impl.Tracks][tileCount]bool

// modelNeighbours returns the tiles beside a tile, in the order up, left, right, down.
func modelNeighbours(tile int) []int {
	tiles := []int{}
	for _, step := range [][2]int{{-1, 0}, {0, -1}, {0, 1}, {1, 0}} {
		row, column := tile/impl.Side+step[0], tile%impl.Side+step[1]
		if min(row, column) >= 0 && max(row, column) < impl.Side {
			tiles = append(tiles, row*impl.Side+column)
		}
	}
	return tiles
}

// unreachable is more than the number of steps of any shortest path.
const unreachable = tileCount

// modelSteps returns for every tile how many steps over tiles that are not in use lead to the goal. It does not search, but repeats what neighbours say of each other until nothing changes.
func modelSteps(inUse [tileCount]bool, goal int) [tileCount]int {
	steps := [tileCount]int{}
	for tile := range steps {
		steps[tile] = unreachable
	}
	if !inUse[goal] {
		steps[goal] = 0
	}
	for changing := true; changing; {
		changing = false
		for tile := range steps {
			for _, next := range modelNeighbours(tile) {
				if !inUse[next] && steps[next]+1 < steps[tile] {
					steps[tile], changing = steps[next]+1, true
				}
			}
		}
	}
	return steps
}

// modelExtended returns the hops with a path to the goal. Of several shortest paths a breadth-first search finds the one that starts from the earliest hop, and of these the one that takes the earliest direction at the first step that differs.
func modelExtended(hops []impl.Hop, inUse [tileCount]bool, goal int) ([]impl.Hop, bool) {
	steps := modelSteps(inUse, goal)
	tile := hops[0].Tile
	for _, hop := range hops {
		if steps[hop.Tile] < steps[tile] {
			tile = hop.Tile
		}
	}
	if steps[tile] == unreachable {
		return nil, false
	}
	for tile != goal {
		for _, next := range modelNeighbours(tile) {
			if !inUse[next] && steps[next] == steps[tile]-1 {
				hops = append(hops, impl.Hop{Tile: next, From: tile})
				tile = next
				break
			}
		}
	}
	return hops, true
}

// modelHops connects the first tile with all others over tiles that are not in use.
func modelHops(inUse [tileCount]bool, tiles []int) ([]impl.Hop, bool) {
	hops, ok := []impl.Hop{{Tile: tiles[0], From: -1}}, !inUse[tiles[0]]
	for i, tile := range tiles {
		if ok && !slices.Contains(tiles[:i], tile) {
			hops, ok = modelExtended(hops, inUse, tile)
		}
	}
	return hops, ok
}

func modelRoute(c impl.Circuit, place []int) ([]impl.NetRoute, bool) {
	cells, used, routes := modelCells(c), modelWires{}, []impl.NetRoute{}
	for net := 1; net <= c.Inputs+len(c.Next)+len(c.Gates); net++ {
		tiles := modelTiles(c, cells, place, net)
		connected := len(tiles) == 0
		for track := 0; track < impl.Tracks && !connected; track++ {
			hops, ok := modelHops(used[track], tiles)
			if !ok {
				continue
			}
			for _, hop := range hops {
				used[track][hop.Tile] = true
			}
			routes = append(routes, impl.NetRoute{Net: net, Track: track, Hops: hops})
			connected = true
		}
		if !connected {
			return nil, false
		}
	}
	return routes, true
}

// Promise 3, but for where the sources are.
func checkTrees(t *testing.T, name string, routes []impl.NetRoute) {
	t.Helper()
	taken := map[[2]int]bool{}
	for _, r := range routes {
		if r.Track < 0 || r.Track >= impl.Tracks || len(r.Hops) == 0 || r.Hops[0].From != -1 {
			t.Fatalf("%s: route %v", name, r)
		}
		tiles := map[int]bool{}
		for i, hop := range r.Hops {
			wire := [2]int{hop.Tile, r.Track}
			if hop.Tile < 0 || hop.Tile >= tileCount || tiles[hop.Tile] || taken[wire] {
				t.Fatalf("%s: hop %v of route %v: routes %v", name, hop, r, routes)
			}
			if i > 0 && (!tiles[hop.From] || distance(hop.From/impl.Side, hop.From%impl.Side, hop.Tile) != 1) {
				t.Fatalf("%s: hop %v of route %v is driven from elsewhere", name, hop, r)
			}
			tiles[hop.Tile], taken[wire] = true, true
		}
	}
}

// Promise 53, and that the routes are in ascending order of nets.
func checkReach(t *testing.T, name string, c impl.Circuit, place []int, routes []impl.NetRoute) {
	t.Helper()
	cells, rest := impl.Cells(c), routes
	for net := 1; net < impl.VarCount(c); net++ {
		tiles := modelTiles(c, cells, place, net)
		if len(tiles) == 0 {
			continue
		}
		if len(rest) == 0 || rest[0].Net != net || rest[0].Hops[0].Tile != tiles[0] {
			t.Fatalf("%s: no route for net %d with the tiles %v: routes %v, placement %v of %v", name, net, tiles, routes, place, c)
		}
		for _, tile := range tiles {
			if !slices.ContainsFunc(rest[0].Hops, func(hop impl.Hop) bool { return hop.Tile == tile }) {
				t.Fatalf("%s: route %v does not reach tile %d: placement %v of %v", name, rest[0], tile, place, c)
			}
		}
		rest = rest[1:]
	}
	if len(rest) > 0 {
		t.Fatalf("%s: too many routes: %v, placement %v of %v", name, routes, place, c)
	}
}

// checkRouted requires promises 3 and 53 and the routes that the steps of the specification give. It returns the routes.
func checkRouted(t *testing.T, name string, c impl.Circuit, place []int) ([]impl.NetRoute, bool) {
	t.Helper()
	routes, ok := impl.Route(c, place)
	want, wantOk := modelRoute(c, place)
	if ok != wantOk || !sameRoutes(routes, want) {
		t.Fatalf("%s: routes %v, %v, want %v, %v: placement %v of %v", name, routes, ok, want, wantOk, place, c)
	}
	if ok {
		checkTrees(t, name, routes)
		checkReach(t, name, c, place, routes)
	}
	return routes, ok
}

func TestRoutingLimits(t *testing.T) {
	if impl.Tracks != 8 {
		t.Errorf("Tracks is %d", impl.Tracks)
	}
}

// routeCase is a circuit and the routes of one of its placements.
type routeCase struct {
	name  string
	c     impl.Circuit
	place []int
	want  []impl.NetRoute
}

func routed(name string, c impl.Circuit, place []int, want ...impl.NetRoute) routeCase {
	return routeCase{name, c, place, want}
}

// netsWithoutRoute are circuits in which some net, or all of them, has no use.
func netsWithoutRoute() []routeCase {
	and := impl.Gate{A: 2, B: 4}
	return []routeCase{
		routed("nil slices", impl.Circuit{}, nil),
		routed("empty slices", impl.Circuit{Next: []int{}, Gates: []impl.Gate{}, Outs: []int{}}, []int{}),
		routed("only inputs", impl.Circuit{Inputs: 4}, nil),
		routed("constant outputs", impl.Circuit{Outs: []int{0, 1, 0}}, nil),
		routed("constant latches and outputs", impl.Circuit{Next: []int{0, 1, 0}, Outs: []int{1, 0, 0}}, []int{24, 0, 12}),
		routed("a gate that nothing uses", withTwoInputs(nil, and), nil),
		routed("a gate that nothing uses beside an input", withTwoInputs([]int{4}, and, impl.Gate{A: 6, B: 2}), nil,
			line(2, 0, 5, 0, 1, 2, 3, 4)),
		routed("one of four inputs", impl.Circuit{Inputs: 4, Outs: []int{1, 6, 0}}, nil, line(3, 0, 10, 5, 6, 7, 8, 9)),
		routed("a latch that nothing uses", impl.Circuit{Inputs: 1, Next: []int{2}}, []int{3}, line(1, 0, 0, 1, 2, 3)),
		routed("a latch beside one that nothing uses", impl.Circuit{Next: []int{1, 0}, Outs: []int{3}}, []int{3, 4}, line(1, 0, 3, 4)),
		routed("gates that another one covers", counter(), []int{24, 0},
			line(1, 0, 0), line(2, 1, 24, 19, 14, 9, 4, 3, 2, 1, 0), line(5, 2, 0, 1, 2, 3, 4, 9, 14, 19, 24)),
		routed("operands of variable 0", impl.Circuit{Inputs: 1, Gates: []impl.Gate{{A: 0, B: 2}}, Outs: []int{0, 4, 0}}, []int{10},
			line(1, 0, 0, 5, 10), line(2, 1, 10, 5, 6, 7, 8, 9)),
		routed("a gate of constants", impl.Circuit{Gates: []impl.Gate{{A: 1, B: 0}}, Outs: []int{3, 1}}, []int{24}, line(1, 0, 24, 19, 14, 9, 4)),
	}
}

// netsInOneTile are circuits in which some net connects a tile with itself.
func netsInOneTile() []routeCase {
	return []routeCase{
		routed("a latch that keeps its value", impl.Circuit{Next: []int{2}}, []int{24}, line(1, 0, 24)),
		routed("a latch that inverts its value", impl.Circuit{Next: []int{3}}, []int{13}, line(1, 0, 13)),
		routed("latches that keep or invert their values", impl.Circuit{Next: []int{2, 5, 6}}, []int{24, 0, 12},
			line(1, 0, 24), line(2, 0, 0), line(3, 0, 12)),
		routed("a latch for itself and others", impl.Circuit{Next: []int{2, 2, 3}}, []int{12, 17, 13}, branched(line(1, 0, 12, 17), 12, 13)),
		routed("a latch where the first input enters", impl.Circuit{Inputs: 4, Next: []int{2}}, []int{0}, line(1, 0, 0)),
		routed("a latch where the last input enters", impl.Circuit{Inputs: 4, Next: []int{9}}, []int{15}, line(4, 0, 15)),
		routed("a latch where its output leaves", impl.Circuit{Next: []int{1}, Outs: []int{0, 2}}, []int{9}, line(1, 0, 9)),
		routed("a latch that keeps its value where its output leaves", impl.Circuit{Next: []int{2}, Outs: []int{0, 0, 3}}, []int{14}, line(1, 0, 14)),
		routed("a gate where its input enters", impl.Circuit{Inputs: 1, Gates: []impl.Gate{{A: 3, B: 3}}, Outs: []int{4}}, []int{0},
			line(1, 0, 0), line(2, 1, 0, 1, 2, 3, 4)),
		routed("a gate where its output leaves", impl.Circuit{Inputs: 1, Gates: []impl.Gate{{A: 3, B: 3}}, Outs: []int{4}}, []int{4},
			line(1, 0, 0, 1, 2, 3, 4), line(2, 1, 4)),
	}
}

// netsAtTheEdges are circuits whose nets begin at inputs or end at outputs.
func netsAtTheEdges() []routeCase {
	return []routeCase{
		routed("every input to the output of its row", impl.Circuit{Inputs: 3, Outs: []int{2, 5, 6}}, nil,
			line(1, 0, 0, 1, 2, 3, 4), line(2, 0, 5, 6, 7, 8, 9), line(3, 0, 10, 11, 12, 13, 14)),
		// On track 0 the first route ends in the others, and on track 1 the second one is in the way of the third one.
		routed("inputs to the outputs of the opposite rows", impl.Circuit{Inputs: 3, Outs: []int{6, 4, 2}}, nil,
			line(1, 0, 0, 1, 2, 3, 4, 9, 14), line(2, 1, 5, 6, 7, 8, 9), line(3, 2, 10, 5, 0, 1, 2, 3, 4)),
		routed("the last input to all outputs", impl.Circuit{Inputs: 4, Outs: []int{8, 9, 8}}, nil, line(4, 0, 15, 10, 5, 0, 1, 2, 3, 4, 9, 14)),
		routed("the first input to the outer outputs", impl.Circuit{Inputs: 1, Outs: []int{2, 0, 3}}, nil, line(1, 0, 0, 1, 2, 3, 4, 9, 14)),
		routed("a latch to all outputs", impl.Circuit{Next: []int{1}, Outs: []int{2, 3, 2}}, []int{7}, line(1, 0, 7, 2, 3, 4, 9, 14)),
		routed("a latch between its outputs", impl.Circuit{Next: []int{1}, Outs: []int{2, 0, 3}}, []int{9}, branched(line(1, 0, 9, 4), 9, 14)),
		routed("a gate to the outer outputs", withTwoInputs([]int{6, 0, 7}, impl.Gate{A: 2, B: 4}), []int{6},
			line(1, 0, 0, 1, 6), line(2, 1, 5, 6), line(3, 2, 6, 1, 2, 3, 4, 9, 14)),
		routed("an input for an output and a cell on the way", impl.Circuit{Inputs: 1, Next: []int{2}, Outs: []int{2}}, []int{2}, line(1, 0, 0, 1, 2, 3, 4)),
		routed("an input for an output and a cell off the way", impl.Circuit{Inputs: 1, Next: []int{2}, Outs: []int{3}}, []int{20},
			branched(line(1, 0, 0, 5, 10, 15, 20), 0, 1, 2, 3, 4)),
	}
}

// fan is a circuit with one net, from the first cell to the two others.
func fan() impl.Circuit {
	return impl.Circuit{Next: []int{1, 2, 3}}
}

// treesOfPaths are circuits with one net, whose order of tiles, of hops and of directions matters.
func treesOfPaths() []routeCase {
	fanToLast := fan()
	fanToLast.Outs = []int{0, 0, 2}
	wide := impl.Circuit{Inputs: 2, Next: []int{4, 5, 4}}
	return []routeCase{
		routed("from the middle of the tree", fan(), []int{10, 14, 7}, branched(line(1, 0, 10, 11, 12, 13, 14), 12, 7)),
		routed("from the source again", fan(), []int{12, 14, 10}, branched(line(1, 0, 12, 13, 14), 12, 11, 10)),
		routed("from the end of the tree", fan(), []int{10, 12, 14}, line(1, 0, 10, 11, 12, 13, 14)),
		routed("a tile on the way to an earlier one", fan(), []int{10, 14, 12}, line(1, 0, 10, 11, 12, 13, 14)),
		routed("the tiles in order", fan(), []int{12, 22, 24}, line(1, 0, 12, 17, 22, 23, 24)),
		routed("the tiles in the opposite order", fan(), []int{12, 24, 22}, branched(line(1, 0, 12, 13, 14, 19, 24), 12, 17, 22)),
		// Both 6 and 12 are beside 11; the directions from there are down and left.
		routed("the earlier hop, not the earlier direction", fan(), []int{5, 17, 11}, branched(line(1, 0, 5, 6, 7, 12, 17), 6, 11)),
		routed("the earlier hop, not the lower tile", fan(), []int{17, 5, 11}, branched(line(1, 0, 17, 12, 7, 6, 5), 12, 11)),
		routed("the earlier of two hops that are two steps away", fan(), []int{2, 14, 12}, branched(line(1, 0, 2, 3, 4, 9, 14), 2, 7, 12)),
		routed("from a tree with a branch", fanToLast, []int{5, 15, 12}, branched(branched(line(1, 0, 5, 10, 15), 10, 11, 12), 12, 13, 14)),
		routed("from the middle of a branch", wide, []int{15, 13, 7}, branched(branched(line(2, 0, 5, 10, 15), 10, 11, 12, 13), 12, 7)),
		routed("a cell comes before an output", impl.Circuit{Next: []int{1, 2}, Outs: []int{2}}, []int{10, 20},
			branched(line(1, 0, 10, 15, 20), 10, 5, 0, 1, 2, 3, 4)),
		routed("a cell comes before an output, from the last row", impl.Circuit{Next: []int{1, 2}, Outs: []int{0, 2}}, []int{20, 23},
			line(1, 0, 20, 21, 22, 23, 18, 13, 8, 9)),
	}
}

// netsThatMeet are circuits in which a net cannot take a track, or not the direct path, because of the nets before it.
func netsThatMeet() []routeCase {
	and := []impl.Gate{{A: 2, B: 4}}
	crossing := func(outs ...int) impl.Circuit { return impl.Circuit{Inputs: 2, Next: []int{2}, Outs: outs} }
	return []routeCase{
		routed("counter", counter(), []int{0, 1}, line(1, 0, 0, 1), line(2, 1, 0, 1, 2, 3, 4), line(5, 2, 1, 0)),
		routed("two nets end in one tile", withTwoInputs([]int{0, 6}, and...), []int{7},
			line(1, 0, 0, 1, 2, 7), line(2, 1, 5, 6, 7), line(3, 2, 7, 8, 9)),
		routed("latches that exchange their values", impl.Circuit{Next: []int{4, 2}}, []int{12, 13}, line(1, 0, 12, 13), line(2, 1, 13, 12)),
		routed("latches that read each other", impl.Circuit{Next: []int{4, 3, 3}}, []int{23, 24, 17},
			branched(line(1, 0, 23, 24), 23, 18, 17), line(2, 1, 24, 23)),
		routed("around another net on the second track", impl.Circuit{Inputs: 2, Next: []int{2, 4, 6}}, []int{6, 1, 2},
			line(1, 0, 0, 1, 6), line(2, 1, 5, 0, 1), line(3, 1, 6, 7, 2)),
		routed("around another net", crossing(0, 4), []int{12}, line(1, 0, 0, 1, 2, 7, 12), line(2, 0, 5, 6, 11, 16, 17, 18, 13, 8, 9)),
		routed("no way around another net", crossing(0, 4), []int{22}, line(1, 0, 0, 1, 2, 7, 12, 17, 22), line(2, 1, 5, 6, 7, 8, 9)),
		routed("the end is taken", crossing(0, 4), []int{9}, line(1, 0, 0, 1, 2, 3, 4, 9), line(2, 1, 5, 6, 7, 8, 9)),
		routed("the end is shut in", impl.Circuit{Inputs: 3, Next: []int{2, 4}, Outs: []int{6}}, []int{3, 9},
			line(1, 0, 0, 1, 2, 3), line(2, 0, 5, 6, 7, 8, 9), line(3, 1, 10, 5, 0, 1, 2, 3, 4)),
		routed("the source is shut in", impl.Circuit{Inputs: 2, Next: []int{2, 4, 0}, Outs: []int{0, 0, 10}}, []int{19, 23, 24},
			line(1, 0, 0, 1, 2, 3, 4, 9, 14, 19), line(2, 0, 5, 6, 7, 8, 13, 18, 23), line(5, 1, 24, 19, 14)),
		routed("the first direction is taken", impl.Circuit{Inputs: 3, Next: []int{4, 6}}, []int{5, 6}, line(2, 0, 5), line(3, 0, 10, 11, 6)),
		// The second net reaches tile 8 on track 0, but not tile 3; the third one then takes the same way.
		routed("nothing is kept of a track that fails", impl.Circuit{Inputs: 3, Next: []int{4}, Gates: and, Outs: []int{0, 6, 10}}, []int{8, 3},
			line(1, 0, 0, 1, 2, 3), line(2, 1, 5, 6, 7, 8, 3), line(3, 0, 10, 5, 6, 7, 8, 9), line(5, 2, 3, 4, 9, 14)),
	}
}

// crowdedTile is a circuit with eight nets that meet in the tile of its first latch, and its placement; next is the next state of that latch.
func crowdedTile(next int) (impl.Circuit, []int) {
	gates := []impl.Gate{{A: 6, B: 14}, {A: 10, B: 12}, {A: 18, B: 4}, {A: 16, B: 16}}
	return impl.Circuit{Inputs: 4, Next: []int{next, 20, 16}, Gates: gates, Outs: []int{22, 22, 8}}, []int{10, 11, 15, 12, 20, 14}
}

// crowdedSource is a circuit with eight nets that meet in the tile where the last net starts, and its placement.
func crowdedSource() (impl.Circuit, []int) {
	gates := []impl.Gate{{A: 2, B: 8}, {A: 10, B: 16}, {A: 12, B: 14}}
	return impl.Circuit{Inputs: 4, Next: []int{8, 18, 6}, Gates: gates, Outs: []int{20, 4, 4}}, []int{6, 7, 8, 10, 5}
}

// netsOnAllTracks are circuits that use every track of some tile.
func netsOnAllTracks() []routeCase {
	c, place := crowdedTile(0)
	return []routeCase{
		routed("a net for every track of tile 10, and one that is elsewhere", c, place,
			line(2, 0, 5, 10, 15, 20), line(3, 1, 10, 11, 12, 13, 14), line(4, 2, 15, 10, 11, 12, 13, 14),
			line(5, 3, 10, 15, 20), line(6, 4, 11, 10, 15, 20), line(7, 5, 15, 10, 11, 12, 13, 14),
			line(8, 6, 12, 11, 10, 15), line(10, 7, 20, 15, 10, 11), line(11, 0, 14, 9, 4)),
	}
}

func routeCases() []routeCase {
	return slices.Concat(netsWithoutRoute(), netsInOneTile(), netsAtTheEdges(), treesOfPaths(), netsThatMeet(), netsOnAllTracks())
}

// Promises 3 and 53: the routes are written out, so that this test does not depend on a model.
func TestKnownRoutes(t *testing.T) {
	for _, k := range routeCases() {
		got, ok := impl.Route(k.c, k.place)
		if !ok || !sameRoutes(got, k.want) {
			t.Errorf("%s: routes %v, %v, want %v: placement %v of %v", k.name, got, ok, k.want, k.place, k.c)
		}
	}
}

// unroutable are circuits with valid placements in which some net finds no track.
func unroutable() []routeCase {
	last, place := crowdedTile(22)
	source, sourcePlace := crowdedSource()
	early := impl.Circuit{Inputs: 4, Next: []int{18, 14, 18}, Gates: []impl.Gate{
		{A: 2, B: 12}, {A: 14, B: 10}, {A: 4, B: 6}, {A: 20, B: 16}, {A: 12, B: 4}, {A: 22, B: 8},
	}, Outs: []int{26, 4, 24}}
	apart := impl.Circuit{Inputs: 4, Next: []int{10, 24, 26}, Gates: []impl.Gate{
		{A: 6, B: 2}, {A: 16, B: 12}, {A: 18, B: 14}, {A: 16, B: 12}, {A: 22, B: 8}, {A: 10, B: 18}, {A: 14, B: 18},
	}, Outs: []int{28, 14, 20}}
	return []routeCase{
		routed("nine nets in the tile that the last one must reach", last, place),
		routed("nine nets in the tile where the last one starts", source, sourcePlace),
		routed("net 9 fails, but not those after it", early, []int{14, 6, 15, 10, 5, 2, 1, 0}),
		routed("no tile is full, but net 11 finds no track that is free at both ends", apart, []int{24, 3, 13, 14, 8, 19, 9, 4, 23}),
		routed("most cells", mostCells(), shuffled(17, 0)),
	}
}

func checkUnroutable(t *testing.T, k routeCase) {
	t.Helper()
	if got, ok := impl.Route(k.c, k.place); ok || len(got) != 0 || !impl.PlacementValid(k.c, k.place) {
		t.Errorf("%s: routes %v, %v: placement %v of %v", k.name, got, ok, k.place, k.c)
	}
}

func TestKnownUnroutablePlacements(t *testing.T) {
	for _, k := range unroutable() {
		checkUnroutable(t, k)
	}
}

// The tile of the first latch has a net on every track; it is one net too many if that latch takes the value of a further one.
func TestOneNetTooMany(t *testing.T) {
	c, place := crowdedTile(0)
	routes, ok := impl.Route(c, place)
	tracks := []int{}
	for _, r := range routes {
		if slices.ContainsFunc(r.Hops, func(hop impl.Hop) bool { return hop.Tile == place[0] }) {
			tracks = append(tracks, r.Track)
		}
	}
	if !ok || !slices.Equal(tracks, []int{0, 1, 2, 3, 4, 5, 6, 7}) {
		t.Errorf("tracks %v of tile %d, %v", tracks, place[0], ok)
	}
	c, place = crowdedTile(22)
	if routes, ok := impl.Route(c, place); ok || len(routes) != 0 {
		t.Errorf("routes %v, %v", routes, ok)
	}
}

// direct is the path in an empty fabric: up is tried first, down last.
func direct(from int, to int) []int {
	path := []int{from}
	for from != to {
		switch rows, columns := to/impl.Side-from/impl.Side, to%impl.Side-from%impl.Side; {
		case rows < 0:
			from -= impl.Side
		case columns < 0:
			from--
		case columns > 0:
			from++
		default:
			from += impl.Side
		}
		path = append(path, from)
	}
	return path
}

// checkOneRoute requires that the only route is the direct path of a net on track 0.
func checkOneRoute(t *testing.T, c impl.Circuit, place []int, net int, from int, to int) {
	t.Helper()
	got, ok := impl.Route(c, place)
	if want := line(net, 0, direct(from, to)...); !ok || !sameRoutes(got, []impl.NetRoute{want}) {
		t.Errorf("from tile %d to tile %d: routes %v, %v, want %v", from, to, got, ok, want)
	}
}

// Promise 53: of equally short paths the order of the directions selects one.
func TestDirectPaths(t *testing.T) {
	c := impl.Circuit{Next: []int{1, 3}}
	for from := range tileCount {
		for to := range tileCount {
			if from != to {
				checkOneRoute(t, c, []int{from, to}, 1, from, to)
			}
		}
	}
}

// Promise 53: every input enters at the left of its row, and every output leaves at the right of its row, wherever the cell is.
func TestRoutesAtEveryRow(t *testing.T) {
	right := impl.Side - 1
	for tile := range tileCount {
		for row := range impl.MaxInputs {
			c := impl.Circuit{Inputs: impl.MaxInputs, Next: []int{2 + 2*row}}
			checkOneRoute(t, c, []int{tile}, 1+row, row*impl.Side, tile)
		}
		for row := range impl.MaxOutputs {
			c := impl.Circuit{Next: []int{1}, Outs: make([]int, impl.MaxOutputs)}
			c.Outs[row] = 3
			checkOneRoute(t, c, []int{tile}, 1, tile, row*impl.Side+right)
		}
	}
	for input := range impl.MaxInputs {
		for output := range impl.MaxOutputs {
			c := impl.Circuit{Inputs: impl.MaxInputs, Outs: make([]int, impl.MaxOutputs)}
			c.Outs[output] = 2 + 2*input
			checkOneRoute(t, c, nil, 1+input, input*impl.Side, output*impl.Side+right)
		}
	}
}

// routedCircuits returns all valid circuits that some test names.
func routedCircuits() []namedCircuit {
	all := placedCircuits()
	for _, k := range slices.Concat(routeCases(), unroutable()) {
		all = append(all, namedCircuit{k.name, k.c})
	}
	return all
}

// Promises 3 and 53.
func TestRoutesOfNamedCircuits(t *testing.T) {
	for _, k := range routedCircuits() {
		for _, place := range somePlacements(len(modelCells(k.c))) {
			checkRouted(t, k.name, k.c, place)
			checkRouted(t, k.name, k.c, reversed(place))
		}
		checkRouted(t, k.name, k.c, impl.Place(k.c))
	}
	for _, k := range slices.Concat(routeCases(), unroutable()) {
		checkRouted(t, k.name, k.c, k.place)
	}
}

// Promises 3 and 53.
func TestRoutesOfSmallCircuits(t *testing.T) {
	i := 0
	for c := range smallCircuits {
		if impl.CircuitValid(c) {
			checkRouted(t, "small circuit", c, shuffled(len(modelCells(c)), i))
			i++
		}
	}
}

// Promises 3 and 53: a net of three tiles, in every order of all tiles, and several nets at once.
func TestRoutesOfThreeLatches(t *testing.T) {
	for first := range tileCount {
		for second := range tileCount {
			for third := range tileCount {
				place := []int{first, second, third}
				if impl.PlacementValid(fan(), place) {
					checkRouted(t, "fan", fan(), place)
				}
			}
		}
	}
	i := 0
	for c := range threeLatches {
		checkRouted(t, "three latches", c, shuffled(impl.MaxLatches, i))
		i++
	}
}

// routeCounts tells how many of many routes are of a kind that tests a part of the router.
type routeCounts struct {
	retried  int
	branched int
	detours  int
	tracks   [impl.Tracks]int
	failed   int
}

// add counts the routes of one circuit, or that there are none.
func (n *routeCounts) add(routes []impl.NetRoute, ok bool) {
	if !ok {
		n.failed++
	}
	used := modelWires{}
	for _, r := range routes {
		n.tracks[r.Track]++
		for track := range r.Track {
			if !used[track][r.Hops[0].Tile] {
				n.retried++
				break
			}
		}
		for i, hop := range r.Hops {
			used[r.Track][hop.Tile] = true
			if i > 0 && hop.From != r.Hops[i-1].Tile {
				n.branched++
			}
		}
		if first, last := r.Hops[0].Tile, r.Hops[len(r.Hops)-1].Tile; len(r.Hops) > 1+distance(first/impl.Side, first%impl.Side, last) {
			n.detours++
		}
	}
}

// Promises 3 and 53 for circuits up to the limits.
func TestRoutesOfMixedCircuits(t *testing.T) {
	counts := routeCounts{}
	for seed := range 2400 {
		c := mixed(seed)
		if seed%2 == 0 {
			c = crowded(seed)
		}
		counts.add(checkRouted(t, "mixed circuit", c, shuffled(len(modelCells(c)), seed)))
	}
	// Circuits whose nets do not meet would test little.
	if slices.Min(counts.tracks[:]) < 20 || counts.retried < 2000 || counts.branched < 1000 || counts.detours < 1000 || counts.failed < 10 {
		t.Errorf("%+v", counts)
	}
}

// Promises 3 and 53 for as many cells as there may be, most placements of which cannot be routed.
func TestRoutesOfMostCells(t *testing.T) {
	counts := routeCounts{}
	for seed := range 600 {
		counts.add(checkRouted(t, "most cells", mostCells(), shuffled(17, seed)))
	}
	if counts.failed < 300 || counts.failed > 580 {
		t.Errorf("%+v", counts)
	}
}

// The tests of chapter 7 try many more tiles and lengths; they require of Route what this test requires.
func TestInvalidPlacementsAreNotRouted(t *testing.T) {
	for _, place := range [][]int{nil, {}, {0}, {0, 1, 2}, {0, 0}, {24, 24}, {-1, 0}, {0, -1}, {25, 0}, {0, 25}, {math.MinInt, 0}, {0, math.MaxInt}, {0, 1 << 32}} {
		checkNoPlacement(t, "counter", counter(), place)
	}
	for _, k := range routeCases() {
		if n := len(k.place); n > 0 {
			checkNoPlacement(t, k.name+", too short", k.c, k.place[1:])
			checkNoPlacement(t, k.name+", nil", k.c, nil)
		}
		free := 0
		for slices.Contains(k.place, free) {
			free++
		}
		checkNoPlacement(t, k.name+", too long", k.c, slices.Concat(k.place, []int{free}))
	}
}

func TestInvalidCircuitsAreNotRouted(t *testing.T) {
	for _, k := range invalidCircuits() {
		checkNotPlaced(t, k.name, k.c, [][]int{nil, {}, {0}, {0, 1}, inOrder(3), inOrder(4), inOrder(17)})
	}
	for _, c := range pastLimits() {
		checkNotPlaced(t, "past a limit", c, [][]int{nil, {3}, inOrder(4), inOrder(17), inOrder(18)})
	}
}

func TestRoutesWithoutCells(t *testing.T) {
	for _, c := range []impl.Circuit{{}, {Inputs: 4}, {Outs: []int{0, 1, 0}}, {Inputs: 1, Outs: []int{2, 3, 0}}, {Inputs: 1, Gates: []impl.Gate{{A: 2, B: 3}}}} {
		for _, place := range [][]int{nil, {}, make([]int, 0, 3)} {
			if _, ok := checkRouted(t, "no cells", c, place); !ok {
				t.Errorf("no routes: %v", c)
			}
		}
	}
}

func TestRouteDoesNotWriteItsArguments(t *testing.T) {
	for _, k := range slices.Concat(routeCases(), unroutable()) {
		c := roomy(k.c)
		for _, place := range [][]int{k.place, inOrder(len(k.place) + 1), {0, 0}, {-1, 25, 3}} {
			argument := roomyPlace(place)
			impl.Route(c, argument)
			checkPlaceUnwritten(t, k.name, argument, place)
		}
		checkUnwritten(t, k.name, c, k.c)
	}
	for _, k := range invalidCircuits() {
		before := copyOf(k.c)
		place := roomyPlace([]int{1, 0})
		impl.Route(k.c, place)
		checkPlaceUnwritten(t, k.name, place, []int{1, 0})
		if !reflect.DeepEqual(k.c, before) {
			t.Errorf("%s: changed: %v, before %v", k.name, k.c, before)
		}
	}
}

// Spoiling the hops of one route must change neither another one nor another result.
func TestRoutesShareNoMemory(t *testing.T) {
	for _, k := range routeCases() {
		c, place := roomy(k.c), roomyPlace(k.place)
		first, _ := impl.Route(c, place)
		second, _ := impl.Route(c, place)
		for i := range first {
			spoilLists(first[i].Hops, impl.Hop{Tile: -100, From: -100})
			first[i].Hops = k.want[i].Hops
			if !sameRoutes(first, k.want) {
				t.Fatalf("%s: the hops of route %d share memory with those of another one", k.name, i)
			}
		}
		spoilLists(first, impl.NetRoute{Net: -100, Track: -100, Hops: []impl.Hop{{Tile: -100}}})
		if third, _ := impl.Route(c, place); !sameRoutes(second, k.want) || !sameRoutes(third, k.want) {
			t.Errorf("%s: two results share memory", k.name)
		}
		checkUnwritten(t, k.name, c, k.c)
		checkPlaceUnwritten(t, k.name, place, k.place)
	}
}

// A circuit whose next states and outputs are one slice, which is the placement too, is an ordinary argument.
func TestRouteOfSharedArguments(t *testing.T) {
	lits := []int{9, 6, 1, 12}
	c := impl.Circuit{Next: lits[:3], Gates: []impl.Gate{{A: 4, B: 2}}, Outs: lits[:3]}
	if routes, ok := checkRouted(t, "shared", c, lits); !ok || len(routes) != 4 {
		t.Errorf("routes %v, %v", routes, ok)
	}
	if !slices.Equal(lits, []int{9, 6, 1, 12}) {
		t.Errorf("argument %v", lits)
	}
}

// Every call starts with free wires: neither routes nor a failure before leave any state behind.
func TestRouteKeepsNoState(t *testing.T) {
	for range 3 {
		for _, k := range routeCases() {
			if got, ok := impl.Route(k.c, k.place); !ok || !sameRoutes(got, k.want) {
				t.Fatalf("%s: %v, %v", k.name, got, ok)
			}
		}
		for _, k := range unroutable() {
			checkUnroutable(t, k)
		}
	}
}
