package tests

import (
	"slices"
	"testing"

	"loop.example/laidrectangles/impl"
)

// outlineCase is a list with what is to be told of its outline.
type outlineCase struct {
	name                            string
	list                            []impl.Rect
	outline, out, in, pieces, holes int
}

// check compares all four functions with the case.
func (c outlineCase) check(t *testing.T) {
	t.Helper()
	if got := impl.OutlineOf(c.list); got != c.outline {
		t.Error("outline:", c.name, c.list, got, "want", c.outline)
	}
	if out, in, ok := impl.CornersOf(c.list); out != c.out || in != c.in || !ok {
		t.Error("corners:", c.name, c.list, out, in, ok, "want", c.out, c.in)
	}
	if got := impl.PiecesOf(c.list); got != c.pieces {
		t.Error("pieces:", c.name, c.list, got, "want", c.pieces)
	}
	if got := impl.HolesOf(c.list); got != c.holes {
		t.Error("holes:", c.name, c.list, got, "want", c.holes)
	}
}

// at tells whether a cell is there; beyond the field none is.
func (c cells) at(x, y int) bool {
	return x >= 0 && x < field && y >= 0 && y < field && c[y][x]
}

// outlineOf goes from cell to cell: a side counts with the one cell that has it, and so does a corner that points out; one that points in counts with the cell across from the one that lacks.
func (c cells) outlineOf() (sides, out, in int) {
	for y := range field {
		for x := range field {
			if !c.at(x, y) {
				continue
			}
			for _, d := range []int{-1, 1} {
				if !c.at(x+d, y) {
					sides++
				}
				if !c.at(x, y+d) {
					sides++
				}
				for _, e := range []int{-1, 1} {
					beside, over := c.at(x+d, y), c.at(x, y+e)
					if !beside && !over {
						out++
					}
					if beside && over && !c.at(x+d, y+e) {
						in++
					}
				}
			}
		}
	}
	return sides, out, in
}

// partsOf joins cells that are like that, each a part of its own at first, to those beside them; the cells around the field are among them.
func (c cells) partsOf(like bool, corners bool) int {
	const wide = field + 2
	var joined [wide * wide]int
	root := func(i int) int {
		for joined[i] != i {
			i = joined[i]
		}
		return i
	}
	beside := [][2]int{{-1, 0}, {0, -1}}
	if corners {
		beside = append(beside, [2]int{-1, -1}, [2]int{1, -1})
	}
	parts := 0
	for y := -1; y <= field; y++ {
		for x := -1; x <= field; x++ {
			here := (y+1)*wide + x + 1
			joined[here] = here
			if c.at(x, y) != like {
				continue
			}
			parts++
			for _, step := range beside {
				v, w := x+step[0], y+step[1]
				if v < -1 || v > field || w < -1 || c.at(v, w) != like {
					continue
				}
				if there := root((w+1)*wide + v + 1); there != root(here) {
					joined[there] = root(here)
					parts--
				}
			}
		}
	}
	return parts
}

// bars draws rectangles one wide or one high: they leave holes and touch at corners more often than others.
func (d *drawing) bars(count, width int) []impl.Rect {
	var out []impl.Rect
	for range count {
		from, to := d.span(width)
		at := d.below(width)
		if d.below(2) == 0 {
			out = append(out, rect(from, at, to, at+1))
		} else {
			out = append(out, rect(at, from, at+1, to))
		}
	}
	return out
}

// frameOf returns four bars around a hole that is two less wide and high.
func frameOf(width int) []impl.Rect {
	return []impl.Rect{rect(0, 0, width, 1), rect(0, width-1, width, width), rect(0, 0, 1, width), rect(width-1, 0, width, width)}
}

// outlineLists returns the samples, drawn bars, and drawn bars in a frame.
func outlineLists() [][]impl.Rect {
	draw := drawing(4)
	out := sampleLists()
	for _, width := range []int{3, 4, 5, 6, 20} {
		for count := 1; count <= laid; count++ {
			for range 40 {
				out = append(out, draw.bars(count, width))
			}
		}
		for count := range laid - 4 + 1 {
			for range 20 {
				out = append(out, append(draw.bars(count, width), frameOf(width)...))
			}
		}
	}
	return out
}

func TestOutlinesAreCountedCellByCell(t *testing.T) {
	touching, holed := 0, 0
	for _, list := range outlineLists() {
		union := unionCells(list)
		c := outlineCase{name: "drawn", list: list, pieces: union.partsOf(true, false), holes: union.partsOf(false, true) - 1}
		c.outline, c.out, c.in = union.outlineOf()
		c.check(t)
		if union.partsOf(true, true) < c.pieces {
			touching++
		}
		if c.holes > 0 {
			holed++
		}
	}
	if touching < 200 || holed < 200 {
		t.Error("too few samples with pieces that touch at a corner, or with holes:", touching, holed)
	}
}

func TestOutlinesOfRectanglesThatTouch(t *testing.T) {
	one := rect(2, 1, 6, 5)
	for _, c := range []outlineCase{
		{"none", nil, 0, 0, 0, 0, 0},
		{"none, and not nil", []impl.Rect{}, 0, 0, 0, 0, 0},
		{"one", []impl.Rect{one}, 16, 4, 0, 1, 0},
		{"a cell", []impl.Rect{rect(7, 7, 8, 8)}, 4, 4, 0, 1, 0},
		{"equal ones", []impl.Rect{one, one}, 16, 4, 0, 1, 0},
		{"as many equal ones as may be", slices.Repeat([]impl.Rect{one}, 7), 16, 4, 0, 1, 0},
		{"one within another", []impl.Rect{one, rect(3, 2, 4, 3)}, 16, 4, 0, 1, 0},
		{"some in common", []impl.Rect{rect(0, 0, 4, 3), one}, 22, 6, 2, 1, 0},
		{"an edge", []impl.Rect{rect(0, 0, 2, 1), rect(0, 0, 1, 2)}, 8, 5, 1, 1, 0},
		{"apart", []impl.Rect{one, rect(8, 8, 9, 9)}, 20, 8, 0, 2, 0},
		{"apart by one column", []impl.Rect{one, rect(7, 1, 9, 5)}, 28, 8, 0, 2, 0},
		{"apart by one row", []impl.Rect{one, rect(2, 6, 6, 8)}, 28, 8, 0, 2, 0},
		{"at a whole side", []impl.Rect{one, rect(6, 1, 8, 5)}, 20, 4, 0, 1, 0},
		{"at a part of a side", []impl.Rect{one, rect(3, 5, 5, 7)}, 20, 6, 2, 1, 0},
		{"at the last part of a side", []impl.Rect{one, rect(6, 4, 7, 9)}, 26, 6, 2, 1, 0},
		{"at a corner to the right", []impl.Rect{rect(0, 0, 1, 1), rect(1, 1, 2, 2)}, 8, 8, 0, 2, 0},
		{"at a corner to the left", []impl.Rect{rect(1, 0, 2, 1), rect(0, 1, 1, 2)}, 8, 8, 0, 2, 0},
		{"at corners, as many as may be", []impl.Rect{rect(0, 0, 1, 1), rect(1, 1, 2, 2), rect(2, 2, 3, 3), rect(3, 3, 4, 4), rect(4, 4, 5, 5), rect(5, 5, 6, 6), rect(6, 6, 7, 7)}, 28, 28, 0, 7, 0},
		{"apart, as many as may be", []impl.Rect{rect(0, 0, 20, 1), rect(0, 2, 20, 3), rect(0, 4, 20, 5), rect(0, 6, 20, 7), rect(0, 8, 20, 9), rect(0, 10, 20, 11), rect(0, 12, 20, 13)}, 294, 28, 0, 7, 0},
	} {
		c.check(t)
	}
}

func TestOutlinesAroundHoles(t *testing.T) {
	frame, small := frameOf(5), frameOf(4)
	for _, c := range []outlineCase{
		{"a frame", frame, 32, 4, 4, 1, 1},
		{"a frame that is filled", append(slices.Clone(frame), rect(1, 1, 4, 4)), 20, 4, 0, 1, 0},
		{"a piece in a hole", append(slices.Clone(frame), rect(2, 2, 3, 3)), 36, 8, 4, 2, 1},
		{"a bar through a hole", append(slices.Clone(frame), rect(0, 2, 5, 3)), 36, 4, 8, 1, 2},
		{"a cross through a hole", append(slices.Clone(frame), rect(0, 2, 5, 3), rect(2, 0, 3, 5)), 36, 4, 16, 1, 4},
		{"two holes that touch at a corner", append(slices.Clone(small), rect(2, 1, 3, 2), rect(1, 2, 2, 3)), 24, 6, 6, 1, 1},
		{"two holes that touch at the other corner", append(slices.Clone(small), rect(1, 1, 2, 2), rect(2, 2, 3, 3)), 24, 6, 6, 1, 1},
		{"a frame that lacks its corner", []impl.Rect{rect(0, 0, 3, 1), rect(0, 0, 1, 3), rect(0, 2, 2, 3), rect(2, 0, 3, 2)}, 16, 7, 3, 1, 0},
		{"a frame of corners that touch", []impl.Rect{rect(2, 1, 3, 2), rect(1, 2, 2, 3), rect(3, 2, 4, 3), rect(2, 3, 3, 4)}, 16, 16, 0, 4, 0},
		{"a frame that touches itself at a corner", []impl.Rect{rect(0, 0, 2, 2), rect(2, 2, 4, 4), rect(2, 0, 6, 1), rect(5, 0, 6, 4), rect(4, 3, 6, 4)}, 30, 8, 4, 1, 0},
		{"a windmill", []impl.Rect{rect(2, 2, 8, 4), rect(8, 2, 10, 8), rect(4, 8, 10, 10), rect(2, 4, 4, 10)}, 48, 4, 4, 1, 1},
		{"a hole between bars", []impl.Rect{rect(0, 6, 20, 7), rect(0, 13, 20, 14), rect(6, 0, 7, 20), rect(13, 0, 14, 20)}, 152, 16, 16, 1, 1},
		{"six holes", []impl.Rect{rect(0, 0, 10, 1), rect(0, 4, 10, 5), rect(0, 8, 10, 9), rect(0, 0, 1, 9), rect(3, 0, 4, 9), rect(6, 0, 7, 9), rect(9, 0, 10, 9)}, 98, 4, 24, 1, 6},
		{"three sides of a frame", frame[:3], 28, 6, 2, 1, 0},
	} {
		c.check(t)
	}
}

func TestOutlinesAtTheBorders(t *testing.T) {
	whole := rect(0, 0, 20, 20)
	for _, c := range []outlineCase{
		{"the field", []impl.Rect{whole}, 80, 4, 0, 1, 0},
		{"the field, as often as may be", slices.Repeat([]impl.Rect{whole}, 7), 80, 4, 0, 1, 0},
		{"the left border", []impl.Rect{rect(0, 5, 3, 8)}, 12, 4, 0, 1, 0},
		{"the low border", []impl.Rect{rect(5, 0, 8, 3)}, 12, 4, 0, 1, 0},
		{"the right border", []impl.Rect{rect(17, 5, 20, 8)}, 12, 4, 0, 1, 0},
		{"the high border", []impl.Rect{rect(5, 17, 8, 20)}, 12, 4, 0, 1, 0},
		{"all corners of the field", []impl.Rect{rect(0, 0, 1, 1), rect(19, 19, 20, 20), rect(0, 19, 1, 20), rect(19, 0, 20, 1)}, 16, 16, 0, 4, 0},
		{"a row", []impl.Rect{rect(0, 9, 20, 10)}, 42, 4, 0, 1, 0},
		{"a column", []impl.Rect{rect(9, 0, 10, 20)}, 42, 4, 0, 1, 0},
		{"a cross", []impl.Rect{rect(0, 9, 20, 11), rect(9, 0, 11, 20)}, 80, 8, 4, 1, 0},
		{"two halves", []impl.Rect{rect(0, 0, 10, 20), rect(10, 0, 20, 20)}, 80, 4, 0, 1, 0},
		{"all but the borders", []impl.Rect{rect(1, 1, 19, 19)}, 72, 4, 0, 1, 0},
		{"the borders", frameOf(20), 152, 4, 4, 1, 1},
		{"no cell at the corner 0, 0", []impl.Rect{rect(1, 0, 20, 20), rect(0, 1, 20, 20)}, 80, 5, 1, 1, 0},
		{"no cell at the corner 19, 19", []impl.Rect{rect(0, 0, 20, 19), rect(0, 0, 19, 20)}, 80, 5, 1, 1, 0},
		{"no cell at the low border", []impl.Rect{rect(0, 1, 20, 20), rect(0, 0, 9, 20), rect(10, 0, 20, 20)}, 82, 6, 2, 1, 0},
		{"no cell at the high border", []impl.Rect{rect(0, 0, 20, 19), rect(0, 0, 9, 20), rect(10, 0, 20, 20)}, 82, 6, 2, 1, 0},
		{"no cell at the left border", []impl.Rect{rect(1, 0, 20, 20), rect(0, 0, 20, 9), rect(0, 10, 20, 20)}, 82, 6, 2, 1, 0},
		{"no cell at the right border", []impl.Rect{rect(0, 0, 19, 20), rect(0, 0, 20, 9), rect(0, 10, 20, 20)}, 82, 6, 2, 1, 0},
		{"no cell beside the border", []impl.Rect{rect(0, 0, 20, 1), rect(0, 0, 1, 20), rect(2, 0, 20, 20), rect(0, 2, 20, 20)}, 84, 4, 4, 1, 1},
		{"no cell beside the border, and none at its corner", []impl.Rect{rect(1, 0, 20, 1), rect(0, 1, 1, 20), rect(2, 0, 20, 20), rect(0, 2, 20, 20)}, 84, 7, 3, 1, 0},
	} {
		c.check(t)
	}
}

func TestOutlinesOfInvalidListsHaveFixedResults(t *testing.T) {
	for _, list := range badLists() {
		if got := impl.OutlineOf(list); got != -1 {
			t.Error("outline", list, got)
		}
		if out, in, ok := impl.CornersOf(list); out != -1 || in != -1 || ok {
			t.Error("corners", list, out, in, ok)
		}
		if got := impl.PiecesOf(list); got != -1 {
			t.Error("pieces", list, got)
		}
		if got := impl.HolesOf(list); got != -1 {
			t.Error("holes", list, got)
		}
	}
}

func TestOutlinesOfMaxLaidAndOneMore(t *testing.T) {
	seven := append(frameOf(5), rect(2, 2, 3, 3), rect(9, 9, 11, 11), rect(11, 11, 12, 12))
	outlineCase{"seven", seven, 48, 16, 4, 4, 1}.check(t)
	eight := append(slices.Clone(seven), rect(0, 0, 1, 1))
	out, in, ok := impl.CornersOf(eight)
	if impl.OutlineOf(eight) != -1 || out != -1 || in != -1 || ok || impl.PiecesOf(eight) != -1 || impl.HolesOf(eight) != -1 {
		t.Error("eight", out, in, ok)
	}
}

func TestOutlinesLeaveTheirArgumentsAsTheyWere(t *testing.T) {
	for _, list := range append(outlineLists(), badLists()...) {
		whole, part := guarded(list)
		before := slices.Clone(whole)
		impl.OutlineOf(part)
		impl.CornersOf(part)
		impl.PiecesOf(part)
		impl.HolesOf(part)
		if !slices.Equal(whole, before) {
			t.Fatal("written to:", before, whole)
		}
	}
}
