package tests

import (
	"math/bits"
	"slices"
	"testing"

	"loop.example/laidrectangles/impl"
)

// piercingCase is a list with what is to be told of its meetings and of the cells that pierce it.
type piercingCase struct {
	name          string
	list          []impl.Rect
	allMeet       bool
	pierce, apart int
}

// check compares all three functions of lists with the case.
func (c piercingCase) check(t *testing.T) {
	t.Helper()
	if got := impl.AllMeetOk(c.list); got != c.allMeet {
		t.Error("all meet:", c.name, c.list, got, "want", c.allMeet)
	}
	if got := impl.PierceOf(c.list); got != c.pierce {
		t.Error("pierce:", c.name, c.list, got, "want", c.pierce)
	}
	if got := impl.ApartOf(c.list); got != c.apart {
		t.Error("apart:", c.name, c.list, got, "want", c.apart)
	}
}

// stacksOf returns, for all cells of the field, which rectangles lie over one: bit i for the one with index i. Each such set is there once.
func stacksOf(list []impl.Rect) []int {
	var over [field][field]int
	for i, r := range list {
		for y, row := range cellsOf(r) {
			for x, has := range row {
				if has {
					over[y][x] |= 1 << i
				}
			}
		}
	}
	var out []int
	for _, row := range over {
		for _, stack := range row {
			if !slices.Contains(out, stack) {
				out = append(out, stack)
			}
		}
	}
	return out
}

// leastCells goes through all sets of rectangles from the smallest on: one needs one cell more than what a cell leaves of it.
func leastCells(stacks []int, count int) int {
	least := make([]int, 1<<count)
	for set := 1; set < len(least); set++ {
		least[set] = count + 1
		for _, stack := range stacks {
			if set&stack != 0 {
				least[set] = min(least[set], least[set&^stack]+1)
			}
		}
	}
	return least[len(least)-1]
}

// mostApart goes through all sets of rectangles: they are apart if over no cell two of them lie.
func mostApart(stacks []int, count int) int {
	most := 0
	for set := range 1 << count {
		shared := slices.ContainsFunc(stacks, func(stack int) bool { return bits.OnesCount(uint(set&stack)) > 1 })
		if !shared {
			most = max(most, bits.OnesCount(uint(set)))
		}
	}
	return most
}

// eachTwoShare tells whether over some cell both lie, for each two.
func eachTwoShare(stacks []int, count int) bool {
	for i := range count {
		for j := range i {
			both := 1<<i | 1<<j
			if !slices.ContainsFunc(stacks, func(stack int) bool { return stack&both == both }) {
				return false
			}
		}
	}
	return true
}

// ringOf returns bars along the four borders of a square, of which each meets just the one ahead of it and the one behind it; with more than four, the one along the high border is cut into such that overlap by one cell.
func ringOf(count, width int) []impl.Rect {
	out := []impl.Rect{rect(0, 0, width, 1), rect(width-1, 0, width, width), rect(0, 0, 1, width)}
	left, pieces := 0, count-3
	for i := range pieces {
		right := width
		if i < pieces-1 {
			right = left + 2
		}
		out = append(out, rect(left, width-1, right, width))
		left = right - 1
	}
	return out
}

// withSameRows gives all rectangles the low and the high side of the first one.
func withSameRows(list []impl.Rect) []impl.Rect {
	out := slices.Clone(list)
	for i := range out {
		out[i].Low, out[i].High = list[0].Low, list[0].High
	}
	return out
}

// columnsOf returns so many columns that touch.
func columnsOf(count int) []impl.Rect {
	var out []impl.Rect
	for i := range count {
		out = append(out, rect(i, 0, i+1, 20))
	}
	return out
}

func turnedOver(list []impl.Rect) []impl.Rect {
	var out []impl.Rect
	for _, r := range list {
		out = append(out, impl.OverOf(r))
	}
	return out
}

// piercingLists returns the samples, columns and rows that touch, lists with the same low and high sides, rings, and drawn bars, alone and beside rings.
func piercingLists() [][]impl.Rect {
	draw := drawing(5)
	out := sampleLists()
	for count := 1; count <= laid; count++ {
		out = append(out, columnsOf(count), turnedOver(columnsOf(count)))
	}
	for _, list := range sampleLists() {
		if len(list) > 1 {
			out = append(out, withSameRows(list), turnedOver(withSameRows(list)))
		}
	}
	for _, width := range []int{6, 20} {
		for count := 4; count <= laid; count++ {
			for further := range laid - count + 1 {
				for range 8 {
					out = append(out, append(draw.bars(further, width), ringOf(count, width)...))
					out = append(out, append(ringOf(count, width), draw.list(further, width)...))
				}
			}
		}
	}
	for _, width := range []int{3, 5, 7, 20} {
		for count := 2; count <= laid; count++ {
			for range 30 {
				out = append(out, draw.bars(count, width))
			}
		}
	}
	return out
}

func TestMeetOkIsSharingACell(t *testing.T) {
	rects := sampleRects()
	filled := make([]cells, len(rects))
	for i, r := range rects {
		filled[i] = cellsOf(r)
	}
	for i, r := range rects {
		for j, s := range rects {
			if got, want := impl.MeetOk(r, s), filled[i].and(filled[j]).count() > 0; got != want {
				t.Fatal(r, s, got, "want", want)
			}
		}
	}
}

func TestMeetOkExamples(t *testing.T) {
	r := rect(4, 4, 8, 8)
	for _, c := range []struct {
		name string
		s    impl.Rect
		want bool
	}{
		{"equal", r, true},
		{"within", rect(5, 5, 6, 6), true},
		{"around", rect(3, 3, 9, 9), true},
		{"the field", rect(0, 0, 20, 20), true},
		{"one cell at its low left corner", rect(3, 3, 5, 5), true},
		{"one cell at its high right corner", rect(7, 7, 9, 9), true},
		{"one cell at its low right corner", rect(7, 3, 9, 5), true},
		{"one cell at its high left corner", rect(3, 7, 5, 9), true},
		{"a cross", rect(5, 0, 6, 20), true},
		{"a cross the other way", rect(0, 5, 20, 6), true},
		{"touches at the left side", rect(2, 4, 4, 8), false},
		{"touches at the right side", rect(8, 4, 10, 8), false},
		{"touches at the low side", rect(4, 2, 8, 4), false},
		{"touches at the high side", rect(4, 8, 8, 10), false},
		{"touches at a part of the left side", rect(0, 5, 4, 6), false},
		{"touches at a part of the low side", rect(0, 0, 20, 4), false},
		{"touches at the low left corner", rect(2, 2, 4, 4), false},
		{"touches at the high right corner", rect(8, 8, 10, 10), false},
		{"touches at the low right corner", rect(8, 2, 10, 4), false},
		{"touches at the high left corner", rect(2, 8, 4, 10), false},
		{"beside it, in the same rows", rect(9, 4, 12, 8), false},
		{"above it, in the same columns", rect(4, 9, 8, 12), false},
		{"far", rect(19, 19, 20, 20), false},
	} {
		if impl.MeetOk(r, c.s) != c.want || impl.MeetOk(c.s, r) != c.want {
			t.Error(c.name, impl.MeetOk(r, c.s), impl.MeetOk(c.s, r), "want", c.want)
		}
	}
}

func TestMeetOkOfWhatIsNoRectangle(t *testing.T) {
	for _, bad := range badRects() {
		for _, r := range append(sampleRects(), bad) {
			if impl.MeetOk(bad, r) || impl.MeetOk(r, bad) {
				t.Error(bad, r)
			}
		}
	}
}

func TestPiercingIsCountedCellByCell(t *testing.T) {
	more := 0
	for _, list := range piercingLists() {
		stacks, count := stacksOf(list), len(list)
		c := piercingCase{"drawn", list, eachTwoShare(stacks, count), leastCells(stacks, count), mostApart(stacks, count)}
		c.check(t)
		if c.pierce > c.apart {
			more++
		}
	}
	if more < 20 {
		t.Error("too few samples that need more cells than there are rectangles apart:", more)
	}
}

func TestPiercingFewRectangles(t *testing.T) {
	r, s, far := rect(0, 0, 4, 3), rect(2, 1, 6, 5), rect(8, 0, 9, 9)
	for _, c := range []piercingCase{
		{"none", nil, true, 0, 0},
		{"none, and not nil", []impl.Rect{}, true, 0, 0},
		{"one", []impl.Rect{r}, true, 1, 1},
		{"one cell", []impl.Rect{rect(19, 19, 20, 20)}, true, 1, 1},
		{"the field", []impl.Rect{rect(0, 0, 20, 20)}, true, 1, 1},
		{"two that meet", []impl.Rect{r, s}, true, 1, 1},
		{"two that meet in one cell", []impl.Rect{r, rect(3, 2, 6, 5)}, true, 1, 1},
		{"two that are far", []impl.Rect{r, far}, false, 2, 2},
		{"two that meet, and a far one", []impl.Rect{r, s, far}, false, 2, 2},
		{"a far one, and two that meet", []impl.Rect{far, r, s}, false, 2, 2},
		{"equal ones", []impl.Rect{r, r}, true, 1, 1},
		{"equal ones, and other equal ones", []impl.Rect{r, far, r, far, r}, false, 2, 2},
		{"one within another one", []impl.Rect{r, rect(1, 1, 2, 2)}, true, 1, 1},
		{"two within another one", []impl.Rect{r, rect(1, 1, 2, 2), rect(2, 1, 3, 2)}, false, 2, 2},
		{"the field, and two that are far", []impl.Rect{rect(0, 0, 20, 20), r, far}, false, 2, 2},
		{"touch at a side", []impl.Rect{r, rect(4, 0, 8, 3)}, false, 2, 2},
		{"touch at the other side", []impl.Rect{r, rect(0, 3, 4, 6)}, false, 2, 2},
		{"touch at a corner", []impl.Rect{r, rect(4, 3, 8, 6)}, false, 2, 2},
		{"touch at the other corner", []impl.Rect{rect(4, 0, 8, 3), rect(0, 3, 4, 6)}, false, 2, 2},
		{"four that touch at one point", []impl.Rect{rect(0, 0, 4, 4), rect(4, 0, 8, 4), rect(0, 4, 4, 8), rect(4, 4, 8, 8)}, false, 4, 4},
		{"four that touch at one point, and one over it", []impl.Rect{rect(0, 0, 4, 4), rect(4, 0, 8, 4), rect(0, 4, 4, 8), rect(4, 4, 8, 8), rect(3, 3, 5, 5)}, false, 4, 4},
		{"a chain of three", []impl.Rect{rect(0, 0, 4, 1), rect(3, 0, 8, 1), rect(7, 0, 9, 1)}, false, 2, 2},
		{"a chain of four", []impl.Rect{rect(0, 0, 4, 1), rect(3, 0, 8, 1), rect(7, 0, 10, 1), rect(9, 0, 20, 1)}, false, 2, 2},
		{"a chain of five", []impl.Rect{rect(0, 0, 4, 1), rect(3, 0, 8, 1), rect(7, 0, 10, 1), rect(9, 0, 15, 1), rect(14, 0, 20, 1)}, false, 3, 3},
		{"three that meet in one cell", []impl.Rect{rect(0, 0, 5, 5), rect(4, 0, 9, 5), rect(4, 4, 9, 9)}, true, 1, 1},
		{"a ring of four that are two wide", []impl.Rect{rect(0, 0, 9, 2), rect(0, 0, 2, 9), rect(7, 0, 9, 9), rect(0, 7, 9, 9)}, false, 2, 2},
	} {
		c.check(t)
	}
}

func TestPiercingManyRectangles(t *testing.T) {
	cross := []impl.Rect{rect(0, 5, 20, 6), rect(0, 7, 20, 8), rect(0, 9, 20, 10), rect(5, 0, 6, 20), rect(7, 0, 8, 20), rect(9, 0, 10, 20)}
	for _, c := range []piercingCase{
		{"seven equal ones", slices.Repeat([]impl.Rect{rect(2, 1, 6, 5)}, 7), true, 1, 1},
		{"the field seven times", slices.Repeat([]impl.Rect{rect(0, 0, 20, 20)}, 7), true, 1, 1},
		{"seven that meet in one cell", []impl.Rect{rect(0, 0, 10, 10), rect(9, 9, 20, 20), rect(0, 9, 10, 20), rect(9, 0, 20, 10), rect(0, 9, 20, 10), rect(9, 0, 10, 20), rect(8, 8, 11, 11)}, true, 1, 1},
		{"seven nested", []impl.Rect{rect(0, 0, 20, 20), rect(1, 1, 19, 19), rect(2, 2, 18, 18), rect(3, 3, 17, 17), rect(4, 4, 16, 16), rect(5, 5, 15, 15), rect(6, 6, 14, 14)}, true, 1, 1},
		{"six that meet, and one that touches", append(slices.Repeat([]impl.Rect{rect(2, 1, 6, 5)}, 6), rect(6, 5, 7, 6)), false, 2, 2},
		{"seven rows that touch", []impl.Rect{rect(0, 4, 20, 5), rect(0, 5, 20, 6), rect(0, 6, 20, 7), rect(0, 7, 20, 8), rect(0, 8, 20, 9), rect(0, 9, 20, 10), rect(0, 10, 20, 11)}, false, 7, 7},
		{"seven columns that touch", columnsOf(7), false, 7, 7},
		{"seven that touch at corners", []impl.Rect{rect(0, 0, 1, 1), rect(1, 1, 2, 2), rect(2, 2, 3, 3), rect(3, 3, 4, 4), rect(4, 4, 5, 5), rect(5, 5, 6, 6), rect(6, 6, 20, 20)}, false, 7, 7},
		{"six that are apart, and the field", []impl.Rect{rect(0, 0, 20, 20), rect(0, 0, 1, 1), rect(2, 0, 3, 1), rect(4, 0, 5, 1), rect(0, 2, 1, 3), rect(2, 2, 3, 3), rect(4, 2, 5, 3)}, false, 6, 6},
		{"three rows and three columns", cross, false, 3, 3},
		{"three rows, three columns, and one apart", append(slices.Clone(cross), rect(19, 19, 20, 20)), false, 4, 4},
		{"the same rows", []impl.Rect{rect(0, 3, 4, 9), rect(2, 3, 6, 9), rect(5, 3, 8, 9), rect(7, 3, 12, 9), rect(11, 3, 14, 9), rect(13, 3, 20, 9), rect(0, 3, 1, 9)}, false, 4, 4},
		{"the same columns", []impl.Rect{rect(3, 0, 9, 4), rect(3, 2, 9, 6), rect(3, 5, 9, 8), rect(3, 7, 9, 12), rect(3, 11, 9, 14), rect(3, 13, 9, 20), rect(3, 0, 9, 1)}, false, 4, 4},
	} {
		c.check(t)
	}
}

// In a ring a cell lies in at most two, and of two neighbours at most one is among those that are apart: with an odd number the first needs half of it rounded up, and the last is half of it rounded down.
func TestPiercingRings(t *testing.T) {
	five, six := ringOf(5, 6), ringOf(6, 6)
	for _, c := range []piercingCase{
		{"a ring of four", ringOf(4, 6), false, 2, 2},
		{"a ring of five", five, false, 3, 2},
		{"a ring of six", six, false, 3, 3},
		{"a ring of seven", ringOf(7, 6), false, 4, 3},
		{"a ring of seven along the borders", ringOf(7, 20), false, 4, 3},
		{"a ring of five that are two wide", []impl.Rect{rect(2, 2, 12, 4), rect(10, 2, 12, 12), rect(7, 10, 12, 12), rect(2, 10, 8, 12), rect(2, 2, 4, 12)}, false, 3, 2},
		{"a ring of five, and the field", append(slices.Clone(five), rect(0, 0, 20, 20)), false, 3, 2},
		{"a ring of five, and one within it", append(slices.Clone(five), rect(2, 2, 4, 4)), false, 4, 3},
		{"a ring of five, and two within it", append(slices.Clone(five), rect(2, 2, 3, 3), rect(3, 3, 4, 4)), false, 5, 4},
		{"a ring of five, and one over a corner", append(slices.Clone(five), rect(0, 0, 1, 1)), false, 3, 3},
		{"a ring of five, and two of it again", append(slices.Clone(five), five[0], five[2]), false, 3, 2},
		{"a ring of six, and one over its middle", append(slices.Clone(six), rect(0, 1, 6, 5)), false, 4, 4},
	} {
		c.check(t)
		slices.Reverse(c.list)
		c.check(t)
		c.list = turnedOver(c.list)
		c.check(t)
	}
}

func TestPiercingAtTheBorders(t *testing.T) {
	whole := rect(0, 0, 20, 20)
	for _, c := range []piercingCase{
		{"at 0, 0", []impl.Rect{whole, rect(0, 0, 1, 1), rect(0, 0, 20, 1), rect(0, 0, 1, 20)}, true, 1, 1},
		{"at 19, 19", []impl.Rect{whole, rect(19, 19, 20, 20), rect(0, 19, 20, 20), rect(19, 0, 20, 20)}, true, 1, 1},
		{"at 19, 0", []impl.Rect{whole, rect(19, 0, 20, 1), rect(0, 0, 20, 1), rect(19, 0, 20, 20)}, true, 1, 1},
		{"at 0, 19", []impl.Rect{whole, rect(0, 19, 1, 20), rect(0, 19, 20, 20), rect(0, 0, 1, 20)}, true, 1, 1},
		{"all corners of the field", []impl.Rect{rect(0, 0, 1, 1), rect(19, 19, 20, 20), rect(0, 19, 1, 20), rect(19, 0, 20, 1)}, false, 4, 4},
		{"all borders", frameOf(20), false, 2, 2},
		{"two halves", []impl.Rect{rect(0, 0, 10, 20), rect(10, 0, 20, 20)}, false, 2, 2},
		{"two halves, and the field", []impl.Rect{rect(0, 0, 20, 10), rect(0, 10, 20, 20), whole}, false, 2, 2},
	} {
		c.check(t)
	}
}

func TestPiercingInvalidListsHasFixedResults(t *testing.T) {
	for _, list := range badLists() {
		piercingCase{"invalid", list, false, -1, -1}.check(t)
	}
}

func TestPiercingMaxLaidAndOneMore(t *testing.T) {
	one, eight := rect(2, 1, 6, 5), make([]impl.Rect, 0, 8)
	for i := range 8 {
		eight = append(eight, rect(2*i, 0, 2*i+1, 20))
	}
	piercingCase{"seven that meet", slices.Repeat([]impl.Rect{one}, 7), true, 1, 1}.check(t)
	piercingCase{"eight that would meet", slices.Repeat([]impl.Rect{one}, 8), false, -1, -1}.check(t)
	piercingCase{"seven that are apart", eight[:7], false, 7, 7}.check(t)
	piercingCase{"eight that would be apart", eight, false, -1, -1}.check(t)
}

func TestPiercingLeavesItsArgumentsAsTheyWere(t *testing.T) {
	for _, list := range append(piercingLists(), badLists()...) {
		whole, part := guarded(list)
		before := slices.Clone(whole)
		impl.AllMeetOk(part)
		impl.PierceOf(part)
		impl.ApartOf(part)
		if !slices.Equal(whole, before) {
			t.Fatal("written to:", before, whole)
		}
	}
}
