package impl

import (
	"slices"
	"testing"
)

func TestUnionOfCuts(t *testing.T) {
	cases := []struct{ x, y, want []int }{
		{nil, nil, nil},
		{[]int{}, []int{3}, []int{3}},
		{[]int{1, 2}, nil, []int{1, 2}},
		{[]int{1, 2}, []int{1, 2}, []int{1, 2}},
		{[]int{4, 5}, []int{1, 2}, []int{1, 2, 4, 5}},
		{[]int{1, 5}, []int{2, 5, 7}, []int{1, 2, 5, 7}},
		{[]int{9, 10, 11}, []int{2, 10, 20}, []int{2, 9, 10, 11, 20}},
	}
	for _, k := range cases {
		x, y := slices.Clone(k.x), slices.Clone(k.y)
		for _, got := range [][]int{unionOf(x, y), unionOf(y, x)} {
			if !slices.Equal(got, k.want) {
				t.Errorf("%v and %v: %v, want %v", k.x, k.y, got, k.want)
			}
			for i := range got {
				got[i] = -1
			}
		}
		if !slices.Equal(x, k.x) || !slices.Equal(y, k.y) {
			t.Errorf("changed: %v and %v, before %v and %v", x, y, k.x, k.y)
		}
	}
}

func TestSortedListsHoldEachOnce(t *testing.T) {
	s := sortedLists[int]{}
	steps := []struct {
		list []int
		want bool
	}{
		{[]int{2, 3}, true}, {[]int{1, 2, 9}, true}, {[]int{2, 3}, false}, {nil, true}, {[]int{}, false},
		{[]int{2}, true}, {[]int{2, 3, 4}, true}, {[]int{10}, true}, {[]int{1, 2, 9}, false}, {[]int{10}, false}, {[]int{2}, false},
	}
	for _, k := range steps {
		if got := s.insert(k.list); got != k.want {
			t.Errorf("%v into %v: %t", k.list, s, got)
		}
	}
	want := [][]int{{}, {1, 2, 9}, {2}, {2, 3}, {2, 3, 4}, {10}}
	if !slices.EqualFunc(s, want, slices.Equal[[]int]) {
		t.Errorf("%v, want %v", s, want)
	}
}

func TestCompareByKeys(t *testing.T) {
	first := func(s string) int { return int(s[0]) }
	length := func(s string) int { return len(s) }
	cases := []struct {
		x, y string
		want int
	}{
		{"a", "b", -1}, {"b", "a", 1}, {"aaa", "b", -1}, {"ax", "a", 1}, {"a", "ax", -1}, {"ax", "ay", 0},
	}
	for _, k := range cases {
		if got := compareByKeys(k.x, k.y, first, length); got != k.want {
			t.Errorf("%s and %s: %d, want %d", k.x, k.y, got, k.want)
		}
	}
	if got := compareByKeys("a", "b"); got != 0 {
		t.Errorf("without keys: %d", got)
	}
}

func TestLatestArrival(t *testing.T) {
	m := mapping{arrivals: []int{0, 3, 1, 2}}
	cases := []struct {
		leaves []int
		want   int
	}{
		{nil, 0}, {[]int{0}, 0}, {[]int{1}, 3}, {[]int{2, 3}, 2}, {[]int{0, 1, 2}, 3},
	}
	for _, k := range cases {
		if got := m.latestArrival(k.leaves); got != k.want {
			t.Errorf("%v: %d, want %d", k.leaves, got, k.want)
		}
	}
}

// Most cuts are never the best one, so only this test sees their tables.
func TestTablesOfAllCuts(t *testing.T) {
	c := Circuit{Inputs: 1, Next: []int{10}, Gates: []Gate{{2, 4}, {3, 5}, {7, 9}}, Outs: []int{4}}
	cases := []struct {
		v      int
		leaves []int
		want   int
	}{
		{3, []int{1, 2}, 8}, {4, []int{1, 2}, 1}, {5, []int{1, 2}, 6},
		{5, []int{3, 4}, 1},
		// In these one leaf lies between the other ones and the variable.
		{5, []int{1, 2, 4}, 7}, {5, []int{1, 2, 3}, 14},
		{3, []int{3}, 2}, {5, []int{5}, 2},
	}
	for _, k := range cases {
		if got := lutTable(c, k.v, k.leaves); got != k.want {
			t.Errorf("variable %d over %v: %d, want %d", k.v, k.leaves, got, k.want)
		}
	}
}

func TestNeededVars(t *testing.T) {
	c := Circuit{Inputs: 2, Next: []int{13}, Gates: []Gate{{2, 4}, {3, 5}, {8, 11}, {2, 6}}, Outs: []int{1}}
	m := mapping{best: [][]int{nil, nil, nil, nil, {1, 2}, {1, 2}, {1, 5}, {1, 3}}}
	needed := m.neededVars(c)
	for v, want := range []bool{true, true, true, false, false, true, true, false} {
		if needed.has(v) != want {
			t.Errorf("variable %d: needed is %t", v, needed.has(v))
		}
	}
}
