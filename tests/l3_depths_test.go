package tests

import (
	"math"
	"slices"
	"testing"

	"loop.example/laidrectangles/impl"
)

func TestDepthAtCountsRectangles(t *testing.T) {
	for _, list := range sampleLists() {
		for y, row := range depthsOf(list) {
			for x, want := range row {
				if got := impl.DepthAt(list, x, y); got != want {
					t.Fatal(list, x, y, got, "want", want)
				}
			}
		}
	}
}

func TestDepthAtExamples(t *testing.T) {
	one := rect(2, 1, 6, 5)
	touching := []impl.Rect{one, rect(6, 1, 8, 5), rect(2, 5, 6, 7), rect(6, 5, 8, 7)}
	three := []impl.Rect{rect(0, 0, 4, 3), one, rect(3, 2, 5, 3)}
	for _, c := range []struct {
		list       []impl.Rect
		x, y, want int
	}{
		{nil, 0, 0, 0},
		{[]impl.Rect{}, 19, 19, 0},
		{[]impl.Rect{one}, 2, 1, 1}, // the first and the last cell
		{[]impl.Rect{one}, 5, 4, 1},
		{[]impl.Rect{one}, 1, 1, 0}, // one further on each side
		{[]impl.Rect{one}, 2, 0, 0},
		{[]impl.Rect{one}, 6, 4, 0},
		{[]impl.Rect{one}, 5, 5, 0},
		{[]impl.Rect{one}, 6, 5, 0}, // to the right and above
		{[]impl.Rect{one}, 19, 19, 0},
		{touching, 5, 4, 1}, // around the corner that all share
		{touching, 6, 4, 1},
		{touching, 5, 5, 1},
		{touching, 6, 5, 1},
		{slices.Repeat([]impl.Rect{one}, 7), 3, 3, 7},
		{slices.Repeat([]impl.Rect{one}, 7), 6, 3, 0},
		{slices.Repeat([]impl.Rect{rect(0, 0, 20, 20)}, 7), 0, 0, 7},
		{slices.Repeat([]impl.Rect{rect(0, 0, 20, 20)}, 7), 19, 19, 7},
		{three, 3, 2, 3},
		{three, 2, 2, 2},
		{three, 4, 2, 2},
		{three, 0, 0, 1},
		{three, 9, 9, 0},
		{three, 1, 2, 1}, // left and low are not exchanged
		{three, 2, 1, 2},
		{three, 0, 4, 0},
		{three, 4, 0, 0},
	} {
		if got := impl.DepthAt(c.list, c.x, c.y); got != c.want {
			t.Error(c.list, c.x, c.y, got, "want", c.want)
		}
	}
}

func TestDepthAtCellsAtTheBorders(t *testing.T) {
	corners := []impl.Rect{rect(0, 0, 1, 1), rect(19, 0, 20, 1), rect(0, 19, 1, 20), rect(19, 19, 20, 20)}
	for _, x := range []int{0, 1, 18, 19} {
		for _, y := range []int{0, 1, 18, 19} {
			want := 0
			if (x == 0 || x == 19) && (y == 0 || y == 19) {
				want = 1
			}
			if got := impl.DepthAt(corners, x, y); got != want {
				t.Error(x, y, got, "want", want)
			}
		}
	}
	for _, n := range []int{0, 7, 19} {
		for _, beyond := range []int{-1, 20} {
			if got := impl.DepthAt(corners, beyond, n); got != -1 {
				t.Error(beyond, n, got)
			}
			if got := impl.DepthAt(corners, n, beyond); got != -1 {
				t.Error(n, beyond, got)
			}
		}
	}
}

func TestDepthAtOfAnyNumbers(t *testing.T) {
	lists := [][]impl.Rect{nil, {rect(0, 0, 20, 20)}, slices.Repeat([]impl.Rect{rect(0, 0, 20, 20)}, 7)}
	numbers := append(oddNumbers(), 2, 18)
	for _, list := range lists {
		for _, x := range numbers {
			for _, y := range numbers {
				want := len(list)
				if x < 0 || x > 19 || y < 0 || y > 19 {
					want = -1
				}
				if got := impl.DepthAt(list, x, y); got != want {
					t.Error(list, x, y, got, "want", want)
				}
			}
		}
	}
}

func TestDepthsOfCountsCells(t *testing.T) {
	for _, list := range sampleLists() {
		want := make([]int, len(list)+1)
		for _, row := range depthsOf(list) {
			for _, depth := range row {
				want[depth]++
			}
		}
		if got := impl.DepthsOf(list); !slices.Equal(got, want) {
			t.Fatal(list, got, "want", want)
		}
	}
}

func TestDepthsOfExamples(t *testing.T) {
	one, whole := rect(2, 1, 6, 5), rect(0, 0, 20, 20)
	for _, c := range []struct {
		list []impl.Rect
		want []int
	}{
		{nil, []int{400}},
		{[]impl.Rect{}, []int{400}},
		{[]impl.Rect{one}, []int{384, 16}},
		{[]impl.Rect{whole}, []int{0, 400}},
		{[]impl.Rect{one, one}, []int{384, 0, 16}},
		{slices.Repeat([]impl.Rect{one}, 7), []int{384, 0, 0, 0, 0, 0, 0, 16}},
		{slices.Repeat([]impl.Rect{whole}, 7), []int{0, 0, 0, 0, 0, 0, 0, 400}},
		{[]impl.Rect{one, rect(6, 1, 8, 5)}, []int{376, 24, 0}}, // touches
		{[]impl.Rect{one, rect(6, 5, 7, 6)}, []int{383, 17, 0}}, // touches at a corner
		{[]impl.Rect{rect(0, 0, 4, 3), one}, []int{376, 20, 4}},
		{[]impl.Rect{rect(0, 0, 4, 3), one, rect(3, 2, 5, 3)}, []int{376, 19, 4, 1}},
		{[]impl.Rect{rect(0, 0, 4, 3), one, rect(3, 2, 5, 3), rect(9, 9, 10, 10)}, []int{375, 20, 4, 1, 0}},
	} {
		if got := impl.DepthsOf(c.list); !slices.Equal(got, c.want) {
			t.Error(c.list, got, "want", c.want)
		}
	}
}

func TestDeepestOfIsTheFirstOfTheGreatest(t *testing.T) {
	for _, list := range sampleLists() {
		depth, left, low := 0, 0, 0
		for y, row := range depthsOf(list) {
			for x, d := range row {
				if d > depth {
					depth, left, low = d, x, y
				}
			}
		}
		if d, x, y, ok := impl.DeepestOf(list); d != depth || x != left || y != low || !ok {
			t.Fatal(list, d, x, y, ok, "want", depth, left, low)
		}
	}
}

func TestDeepestOfExamples(t *testing.T) {
	one := rect(2, 1, 6, 5)
	for _, c := range []struct {
		list        []impl.Rect
		depth, x, y int
	}{
		{nil, 0, 0, 0},
		{[]impl.Rect{}, 0, 0, 0},
		{[]impl.Rect{one}, 1, 2, 1},
		{[]impl.Rect{one, one}, 2, 2, 1},
		{slices.Repeat([]impl.Rect{one}, 7), 7, 2, 1},
		{slices.Repeat([]impl.Rect{rect(0, 0, 20, 20)}, 7), 7, 0, 0},
		{[]impl.Rect{rect(19, 19, 20, 20)}, 1, 19, 19},
		{[]impl.Rect{rect(0, 0, 20, 20), rect(19, 19, 20, 20)}, 2, 19, 19},
		{[]impl.Rect{rect(0, 0, 4, 3), one, rect(3, 2, 5, 3)}, 3, 3, 2},
		{[]impl.Rect{one, rect(6, 1, 8, 5)}, 1, 2, 1},                                  // touches
		{[]impl.Rect{rect(6, 1, 8, 5), one}, 1, 2, 1},                                  // the first cell, not the first rectangle
		{[]impl.Rect{rect(0, 9, 1, 10), rect(9, 0, 10, 1)}, 1, 9, 0},                   // the lowest row comes ahead of the leftmost column
		{[]impl.Rect{rect(9, 3, 10, 4), rect(4, 3, 5, 4)}, 1, 4, 3},                    // in one row from the left on
		{[]impl.Rect{rect(9, 3, 12, 9), rect(4, 3, 7, 9), rect(0, 4, 20, 5)}, 2, 4, 4}, // two cells as deep in a row
		{[]impl.Rect{rect(0, 0, 1, 1), rect(5, 5, 7, 7), rect(6, 6, 8, 8)}, 2, 6, 6},   // one less deep comes ahead
	} {
		if d, x, y, ok := impl.DeepestOf(c.list); d != c.depth || x != c.x || y != c.y || !ok {
			t.Error(c.list, d, x, y, ok)
		}
	}
}

func TestAtLeastCountsCells(t *testing.T) {
	for _, list := range sampleLists() {
		deep := depthsOf(list)
		for depth := range laid + 3 {
			want := 0
			for _, row := range deep {
				for _, d := range row {
					if d >= depth {
						want++
					}
				}
			}
			if got := impl.AtLeast(list, depth); got != want {
				t.Fatal(list, depth, got, "want", want)
			}
		}
	}
}

func TestAtLeastExamples(t *testing.T) {
	one := rect(2, 1, 6, 5)
	three := []impl.Rect{rect(0, 0, 4, 3), one, rect(3, 2, 5, 3)}
	for _, c := range []struct {
		list        []impl.Rect
		depth, want int
	}{
		{nil, 0, 400}, {nil, 1, 0}, {nil, -1, -1}, {[]impl.Rect{}, 0, 400}, {[]impl.Rect{}, 1, 0},
		{three, 0, 400}, {three, 1, 24}, {three, 2, 5}, {three, 3, 1}, {three, 4, 0}, {three, 9, 0}, {three, -1, -1},
		{slices.Repeat([]impl.Rect{one}, 7), 7, 16}, {slices.Repeat([]impl.Rect{one}, 7), 8, 0},
		{[]impl.Rect{one, rect(6, 1, 8, 5)}, 1, 24}, {[]impl.Rect{one, rect(6, 1, 8, 5)}, 2, 0}, // touches
		{[]impl.Rect{one, rect(6, 5, 7, 6)}, 1, 17}, {[]impl.Rect{one, rect(6, 5, 7, 6)}, 2, 0}, // touches at a corner
	} {
		if got := impl.AtLeast(c.list, c.depth); got != c.want {
			t.Error(c.list, c.depth, got, "want", c.want)
		}
	}
}

func TestAtLeastOfAnyNumbers(t *testing.T) {
	for _, list := range [][]impl.Rect{nil, {rect(2, 1, 6, 5)}, slices.Repeat([]impl.Rect{rect(0, 0, 20, 20)}, 7)} {
		for _, n := range oddNumbers() {
			got := impl.AtLeast(list, n)
			if n < 0 && got != -1 || n > len(list) && got != 0 || n == 0 && got != 400 {
				t.Error(list, n, got)
			}
		}
	}
}

func TestDepthsOfInvalidListsHaveFixedResults(t *testing.T) {
	for _, list := range badLists() {
		for _, n := range []int{math.MinInt, -1, 0, 1, 2, 3, 7, 8, 19, 20, math.MaxInt} {
			if got := impl.DepthAt(list, n, 3); got != -1 {
				t.Error("depth", list, n, got)
			}
			if got := impl.DepthAt(list, 3, n); got != -1 {
				t.Error("depth", list, n, got)
			}
			if got := impl.AtLeast(list, n); got != -1 {
				t.Error("at least", list, n, got)
			}
		}
		if got := impl.DepthsOf(list); got != nil {
			t.Error("depths", list, got)
		}
		if d, x, y, ok := impl.DeepestOf(list); d != -1 || x != -1 || y != -1 || ok {
			t.Error("deepest", list, d, x, y, ok)
		}
	}
}

func TestDepthsOfMaxLaidAndOneMore(t *testing.T) {
	seven := slices.Repeat([]impl.Rect{rect(2, 1, 6, 5)}, 7)
	eight := append(slices.Clone(seven), rect(2, 1, 6, 5))
	if d, _, _, ok := impl.DeepestOf(seven); impl.DepthAt(seven, 2, 1) != 7 || len(impl.DepthsOf(seven)) != 8 || d != 7 || !ok || impl.AtLeast(seven, 7) != 16 {
		t.Error("seven")
	}
	if d, _, _, ok := impl.DeepestOf(eight); impl.DepthAt(eight, 2, 1) != -1 || impl.DepthsOf(eight) != nil || d != -1 || ok || impl.AtLeast(eight, 7) != -1 {
		t.Error("eight")
	}
}

func TestDepthsLeaveTheirArgumentsAsTheyWere(t *testing.T) {
	for _, list := range append(sampleLists(), badLists()...) {
		whole, part := guarded(list)
		before := slices.Clone(whole)
		impl.DepthAt(part, 3, 2)
		impl.DepthsOf(part)
		impl.DeepestOf(part)
		impl.AtLeast(part, 1)
		if !slices.Equal(whole, before) {
			t.Fatal("written to:", before, whole)
		}
	}
}

func TestResultsOfDepthsAreNewMemory(t *testing.T) {
	for _, list := range sampleLists() {
		first, second := impl.DepthsOf(list), impl.DepthsOf(list)
		kept := slices.Clone(second)
		fill(first, -7)
		if !slices.Equal(second, kept) || !slices.Equal(impl.DepthsOf(list), kept) {
			t.Fatal("shared:", list)
		}
	}
}
