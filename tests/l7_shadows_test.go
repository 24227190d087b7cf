package tests

import (
	"math"
	"slices"
	"strings"
	"testing"

	"loop.example/laidrectangles/impl"
)

// shadowCase is a list with what is to be told of its shadows and of its runs.
type shadowCase struct {
	name              string
	list              []impl.Rect
	columns, rows     int
	inRows, inColumns int
	gapFree           bool
	perRow, perColumn []int // how many cells the rows from the lowest one up, and the columns from the left on, have; those behind have none
}

// check compares all four functions with the case, and so it does each row of the field.
func (c shadowCase) check(t *testing.T) {
	t.Helper()
	if columns, rows, ok := impl.ShadowsOf(c.list); columns != c.columns || rows != c.rows || !ok {
		t.Error("shadows:", c.name, c.list, columns, rows, ok, "want", c.columns, c.rows)
	}
	if rows, columns, ok := impl.RunsOf(c.list); rows != c.inRows || columns != c.inColumns || !ok {
		t.Error("runs:", c.name, c.list, rows, columns, ok, "want", c.inRows, c.inColumns)
	}
	if got := impl.GapFreeOk(c.list); got != c.gapFree {
		t.Error("gap free:", c.name, c.list, got, "want", c.gapFree)
	}
	for y := range field {
		want := 0
		if y < len(c.perRow) {
			want = c.perRow[y]
		}
		if got := impl.RowCount(c.list, y); got != want {
			t.Error("row:", c.name, c.list, y, got, "want", want)
		}
	}
}

// checkOver does so for the list turned over too: its rows are columns then.
func (c shadowCase) checkOver(t *testing.T) {
	t.Helper()
	c.check(t)
	c.name, c.list = c.name+", turned over", turnedOver(c.list)
	c.columns, c.rows = c.rows, c.columns
	c.inRows, c.inColumns = c.inColumns, c.inRows
	c.perRow, c.perColumn = c.perColumn, c.perRow
	c.check(t)
}

// from returns numbers behind so many that are 0.
func from(first int, numbers ...int) []int {
	return append(make([]int, first), numbers...)
}

// times returns a number so many times.
func times(count, number int) []int {
	return slices.Repeat([]int{number}, count)
}

// drawnLines writes each row, and each column, as a text: a mark for a cell that is there, and a space for one that is not.
func (c cells) drawnLines() (rows, columns []string) {
	for i := range field {
		row, column := "", ""
		for j := range field {
			row += markOf(c[i][j])
			column += markOf(c[j][i])
		}
		rows, columns = append(rows, row), append(columns, column)
	}
	return rows, columns
}

func markOf(there bool) string {
	if there {
		return "#"
	}
	return " "
}

// wordsIn tells how many lines have a mark, how many words all have together, how many words one has at most, and how many marks each one has.
func wordsIn(lines []string) (marked, words, most int, marks []int) {
	for _, line := range lines {
		n := len(strings.Fields(line))
		if n > 0 {
			marked++
		}
		words, most = words+n, max(most, n)
		marks = append(marks, strings.Count(line, "#"))
	}
	return marked, words, most, marks
}

// drawnCase returns what is told of a list by its union, drawn as text: a run is a word.
func drawnCase(list []impl.Rect) shadowCase {
	rows, columns := unionCells(list).drawnLines()
	c := shadowCase{name: "drawn", list: list}
	mostInRow, mostInColumn := 0, 0
	c.rows, c.inRows, mostInRow, c.perRow = wordsIn(rows)
	c.columns, c.inColumns, mostInColumn, c.perColumn = wordsIn(columns)
	c.gapFree = mostInRow <= 1 && mostInColumn <= 1
	return c
}

// around draws rectangles that all have one cell: no row and no column of their union has a gap.
func (d *drawing) around(count, width int) []impl.Rect {
	x, y := d.below(width), d.below(width)
	var out []impl.Rect
	for range count {
		left, low := d.below(x+1), d.below(y+1)
		out = append(out, rect(left, low, x+1+d.below(width-x), y+1+d.below(width-y)))
	}
	return out
}

// barsApart returns so many columns with one empty one between each two.
func barsApart(count int) []impl.Rect {
	var out []impl.Rect
	for i := range count {
		out = append(out, rect(2*i, 0, 2*i+1, 20))
	}
	return out
}

// stairsOf returns so many cells of which each one touches the next one at a corner.
func stairsOf(count int) []impl.Rect {
	var out []impl.Rect
	for i := range count {
		out = append(out, rect(i, i, i+1, i+1))
	}
	return out
}

// grid returns three rows and three columns, with four holes of one cell between them.
func grid() []impl.Rect {
	return []impl.Rect{rect(0, 0, 5, 1), rect(0, 2, 5, 3), rect(0, 4, 5, 5), rect(0, 0, 1, 5), rect(2, 0, 3, 5), rect(4, 0, 5, 5)}
}

// shadowLists returns the lists of outlines, lists around one cell, columns and rows that are apart, stairs, and grids with drawn bars.
func shadowLists() [][]impl.Rect {
	draw := drawing(7)
	out := outlineLists()
	for count := 1; count <= laid; count++ {
		out = append(out, barsApart(count), turnedOver(barsApart(count)), stairsOf(count))
		for _, width := range []int{4, 9, 20} {
			for range 12 {
				out = append(out, draw.around(count, width))
			}
		}
	}
	for range 20 {
		out = append(out, append(draw.bars(1, 6), grid()...))
	}
	return out
}

func TestShadowsAndRunsAreCountedCellByCell(t *testing.T) {
	free, both, rowsOnly, columnsOnly := 0, 0, 0, 0
	for _, list := range shadowLists() {
		c := drawnCase(list)
		c.checkOver(t)
		gapInRow, gapInColumn := c.inRows > c.rows, c.inColumns > c.columns
		switch {
		case gapInRow && gapInColumn:
			both++
		case gapInRow:
			rowsOnly++
		case gapInColumn:
			columnsOnly++
		case len(list) > 1:
			free++
		}
	}
	if free < 100 || both < 100 || rowsOnly < 100 || columnsOnly < 100 {
		t.Error("too few samples of one kind:", free, both, rowsOnly, columnsOnly)
	}
}

func TestShadowsOfFewRectangles(t *testing.T) {
	one := rect(2, 1, 7, 4)
	row, column := from(1, 5, 5, 5), from(2, 3, 3, 3, 3, 3)
	for _, c := range []shadowCase{
		{"none", nil, 0, 0, 0, 0, true, nil, nil},
		{"none, and not nil", []impl.Rect{}, 0, 0, 0, 0, true, nil, nil},
		{"one", []impl.Rect{one}, 5, 3, 3, 5, true, row, column},
		{"one cell", []impl.Rect{rect(7, 8, 8, 9)}, 1, 1, 1, 1, true, from(8, 1), from(7, 1)},
		{"a row of one", []impl.Rect{rect(3, 6, 9, 7)}, 6, 1, 1, 6, true, from(6, 6), from(3, 1, 1, 1, 1, 1, 1)},
		{"two equal ones", []impl.Rect{one, one}, 5, 3, 3, 5, true, row, column},
		{"one within another one", []impl.Rect{one, rect(3, 2, 4, 3)}, 5, 3, 3, 5, true, row, column},
		{"another one around it", []impl.Rect{rect(3, 2, 4, 3), one}, 5, 3, 3, 5, true, row, column},
		{"two within another one", []impl.Rect{rect(2, 1, 3, 2), rect(6, 3, 7, 4), one}, 5, 3, 3, 5, true, row, column},
		{"some in common", []impl.Rect{rect(0, 0, 4, 3), rect(2, 1, 6, 5)}, 6, 5, 5, 6, true, from(0, 4, 6, 6, 4, 4), from(0, 3, 3, 5, 5, 4, 4)},
		{"an edge", []impl.Rect{rect(0, 0, 3, 1), rect(0, 0, 1, 2)}, 3, 2, 2, 3, true, from(0, 3, 1), from(0, 2, 1, 1)},
		{"a bar upon a bar", []impl.Rect{rect(0, 0, 5, 1), rect(2, 1, 3, 4)}, 5, 4, 4, 5, true, from(0, 5, 1, 1, 1), from(0, 1, 1, 4, 1, 1)},
	} {
		c.checkOver(t)
	}
}

func TestShadowsOfRectanglesThatTouch(t *testing.T) {
	for _, c := range []shadowCase{
		{"at a whole side", []impl.Rect{rect(0, 0, 4, 3), rect(4, 0, 8, 3)}, 8, 3, 3, 8, true, times(3, 8), times(8, 3)},
		{"at a part of a side", []impl.Rect{rect(0, 0, 4, 3), rect(4, 2, 6, 6)}, 6, 6, 6, 6, true, from(0, 4, 4, 6, 2, 2, 2), from(0, 3, 3, 3, 3, 4, 4)},
		{"at a corner", []impl.Rect{rect(0, 0, 2, 1), rect(2, 1, 3, 3)}, 3, 3, 3, 3, true, from(0, 2, 1, 1), from(0, 1, 1, 2)},
		{"at the other corner", []impl.Rect{rect(2, 0, 4, 1), rect(0, 1, 2, 3)}, 4, 3, 3, 4, true, from(0, 2, 2, 2), from(0, 2, 2, 1, 1)},
		{"at one point, all four", []impl.Rect{rect(0, 0, 2, 2), rect(2, 0, 4, 2), rect(0, 2, 2, 4), rect(2, 2, 4, 4)}, 4, 4, 4, 4, true, times(4, 4), times(4, 4)},
		{"at corners, and then a side", []impl.Rect{rect(0, 0, 1, 1), rect(1, 1, 2, 2), rect(2, 0, 3, 1)}, 3, 2, 3, 3, false, from(0, 2, 1), from(0, 1, 1, 1)},
		{"two halves", []impl.Rect{rect(0, 0, 10, 20), rect(10, 0, 20, 20)}, 20, 20, 20, 20, true, times(20, 20), times(20, 20)},
		{"three in a row, the middle one last", []impl.Rect{rect(0, 5, 2, 6), rect(4, 5, 6, 6), rect(2, 5, 4, 6)}, 6, 1, 1, 6, true, from(5, 6), times(6, 1)},
	} {
		c.checkOver(t)
	}
}

func TestShadowsWithGaps(t *testing.T) {
	cup := []impl.Rect{rect(0, 0, 5, 1), rect(0, 0, 1, 4), rect(4, 0, 5, 4)}
	for _, c := range []shadowCase{
		{"a row with a gap of one cell", []impl.Rect{rect(0, 0, 1, 1), rect(2, 0, 3, 1)}, 2, 1, 2, 2, false, from(0, 2), from(0, 1, 0, 1)},
		{"a row with a wide gap", []impl.Rect{rect(0, 3, 2, 4), rect(5, 3, 9, 4)}, 6, 1, 2, 6, false, from(3, 6), from(0, 1, 1, 0, 0, 0, 1, 1, 1, 1)},
		{"the right one first", []impl.Rect{rect(5, 3, 9, 4), rect(0, 3, 2, 4)}, 6, 1, 2, 6, false, from(3, 6), from(0, 1, 1, 0, 0, 0, 1, 1, 1, 1)},
		{"a row with two gaps", []impl.Rect{rect(0, 2, 1, 3), rect(3, 2, 5, 3), rect(6, 2, 9, 3)}, 6, 1, 3, 6, false, from(2, 6), from(0, 1, 0, 0, 1, 1, 0, 1, 1, 1)},
		{"four rows with two gaps", []impl.Rect{rect(0, 0, 1, 4), rect(3, 0, 5, 4), rect(6, 0, 9, 4)}, 6, 4, 12, 6, false, times(4, 6), from(0, 4, 0, 0, 4, 4, 0, 4, 4, 4)},
		{"one row of two with a gap", []impl.Rect{rect(0, 0, 2, 2), rect(3, 1, 4, 3)}, 3, 3, 4, 3, false, from(0, 2, 3, 1), from(0, 2, 2, 0, 2)},
		{"a gap in the shadow alone", []impl.Rect{rect(0, 0, 1, 1), rect(5, 7, 6, 9)}, 2, 3, 3, 2, true, from(0, 1, 0, 0, 0, 0, 0, 0, 1, 1), from(0, 1, 0, 0, 0, 0, 2)},
		{"a gap that another one fills", []impl.Rect{rect(0, 3, 2, 4), rect(5, 3, 9, 4), rect(1, 3, 6, 4)}, 9, 1, 1, 9, true, from(3, 9), times(9, 1)},
		{"a gap that another one fills in part", []impl.Rect{rect(0, 3, 2, 4), rect(5, 3, 9, 4), rect(3, 3, 5, 4)}, 8, 1, 2, 8, false, from(3, 8), from(0, 1, 1, 0, 1, 1, 1, 1, 1, 1)},
		{"a cup", cup, 5, 4, 7, 5, false, from(0, 5, 2, 2, 2), from(0, 4, 1, 1, 1, 4)},
		{"a cup upside down", []impl.Rect{rect(0, 3, 5, 4), rect(0, 0, 1, 4), rect(4, 0, 5, 4)}, 5, 4, 7, 5, false, from(0, 2, 2, 2, 5), from(0, 4, 1, 1, 1, 4)},
		{"a cup that is filled", append(slices.Clone(cup), rect(1, 1, 4, 4)), 5, 4, 4, 5, true, times(4, 5), times(5, 4)},
		{"an arch over a step", []impl.Rect{rect(0, 0, 2, 2), rect(1, 1, 5, 3), rect(4, 0, 6, 2)}, 6, 3, 4, 6, false, from(0, 4, 6, 4), from(0, 2, 3, 2, 2, 3, 2)},
		{"a comb", []impl.Rect{rect(0, 0, 1, 5), rect(0, 0, 4, 1), rect(0, 2, 4, 3), rect(0, 4, 4, 5)}, 4, 5, 5, 10, false, from(0, 4, 1, 4, 1, 4), from(0, 5, 3, 3, 3)},
		{"rows and columns with two gaps", grid(), 5, 5, 9, 9, false, from(0, 5, 3, 5, 3, 5), from(0, 5, 3, 5, 3, 5)},
		{"one gap across, and one upright", []impl.Rect{rect(0, 0, 1, 1), rect(2, 0, 3, 1), rect(2, 2, 3, 3)}, 2, 2, 3, 3, false, from(0, 2, 0, 1), from(0, 1, 0, 2)},
	} {
		c.checkOver(t)
	}
}

func TestShadowsAroundHoles(t *testing.T) {
	frame := frameOf(5)
	windmill := []impl.Rect{rect(2, 2, 8, 4), rect(8, 2, 10, 8), rect(4, 8, 10, 10), rect(2, 4, 4, 10)}
	for _, c := range []shadowCase{
		{"a hole of one cell", frameOf(3), 3, 3, 4, 4, false, from(0, 3, 2, 3), from(0, 3, 2, 3)},
		{"a frame", frame, 5, 5, 8, 8, false, from(0, 5, 2, 2, 2, 5), from(0, 5, 2, 2, 2, 5)},
		{"a frame that is filled", append(slices.Clone(frame), rect(1, 1, 4, 4)), 5, 5, 5, 5, true, times(5, 5), times(5, 5)},
		{"a frame that is filled but for one cell", append(slices.Clone(frame), rect(1, 1, 4, 3), rect(1, 1, 3, 4)), 5, 5, 6, 6, false, from(0, 5, 5, 5, 4, 5), from(0, 5, 5, 5, 4, 5)},
		{"a piece in a hole", append(slices.Clone(frame), rect(2, 2, 3, 3)), 5, 5, 9, 9, false, from(0, 5, 2, 3, 2, 5), from(0, 5, 2, 3, 2, 5)},
		{"a bar through a hole", append(slices.Clone(frame), rect(0, 2, 5, 3)), 5, 5, 7, 11, false, from(0, 5, 2, 5, 2, 5), from(0, 5, 3, 3, 3, 5)},
		{"a windmill", windmill, 8, 8, 12, 12, false, from(2, 8, 8, 4, 4, 4, 4, 8, 8), from(2, 8, 8, 4, 4, 4, 4, 8, 8)},
		{"a windmill that is filled", append(slices.Clone(windmill), rect(4, 4, 8, 8)), 8, 8, 8, 8, true, from(2, times(8, 8)...), from(2, times(8, 8)...)},
		{"a high hole", []impl.Rect{rect(0, 0, 3, 1), rect(0, 5, 3, 6), rect(0, 0, 1, 6), rect(2, 0, 3, 6)}, 3, 6, 10, 4, false, from(0, 3, 2, 2, 2, 2, 3), from(0, 6, 2, 6)},
		{"three sides of a frame", frame[:3], 5, 5, 5, 9, false, from(0, 5, 1, 1, 1, 5), from(0, 5, 2, 2, 2, 2)},
	} {
		c.checkOver(t)
	}
}

func TestShadowsAtTheBorders(t *testing.T) {
	whole := rect(0, 0, 20, 20)
	full, corners := times(20, 20), append(from(0, 2), from(18, 2)...)
	for _, c := range []shadowCase{
		{"the field", []impl.Rect{whole}, 20, 20, 20, 20, true, full, full},
		{"the field over others", []impl.Rect{rect(3, 3, 4, 4), rect(8, 3, 9, 9), whole}, 20, 20, 20, 20, true, full, full},
		{"the cell at 0, 0", []impl.Rect{rect(0, 0, 1, 1)}, 1, 1, 1, 1, true, from(0, 1), from(0, 1)},
		{"the cell at 19, 19", []impl.Rect{rect(19, 19, 20, 20)}, 1, 1, 1, 1, true, from(19, 1), from(19, 1)},
		{"the cell at 19, 0", []impl.Rect{rect(19, 0, 20, 1)}, 1, 1, 1, 1, true, from(0, 1), from(19, 1)},
		{"the first row", []impl.Rect{rect(0, 0, 20, 1)}, 20, 1, 1, 20, true, from(0, 20), times(20, 1)},
		{"the last row", []impl.Rect{rect(0, 19, 20, 20)}, 20, 1, 1, 20, true, from(19, 20), times(20, 1)},
		{"the first and the last row", []impl.Rect{rect(0, 0, 20, 1), rect(0, 19, 20, 20)}, 20, 2, 2, 40, false, append(from(0, 20), from(18, 20)...), times(20, 2)},
		{"all corners of the field", []impl.Rect{rect(0, 0, 1, 1), rect(19, 19, 20, 20), rect(0, 19, 1, 20), rect(19, 0, 20, 1)}, 2, 2, 4, 4, false, corners, corners},
		{"two corners across", []impl.Rect{rect(0, 0, 1, 1), rect(19, 19, 20, 20)}, 2, 2, 2, 2, true, append(from(0, 1), from(18, 1)...), append(from(0, 1), from(18, 1)...)},
		{"to the end of one row, and from the beginning of the next one", []impl.Rect{rect(5, 3, 20, 4), rect(0, 4, 5, 5)}, 20, 2, 2, 20, true, from(3, 15, 5), times(20, 1)},
		{"all but the borders", []impl.Rect{rect(1, 1, 19, 19)}, 18, 18, 18, 18, true, from(1, times(18, 18)...), from(1, times(18, 18)...)},
		{"the borders", frameOf(20), 20, 20, 38, 38, false, append(append(from(0, 20), times(18, 2)...), 20), append(append(from(0, 20), times(18, 2)...), 20)},
		{"a cross", []impl.Rect{rect(0, 9, 20, 11), rect(9, 0, 11, 20)}, 20, 20, 20, 20, true, append(append(times(9, 2), 20, 20), times(9, 2)...), append(append(times(9, 2), 20, 20), times(9, 2)...)},
		{"no cell at the corner 0, 0", []impl.Rect{rect(1, 0, 20, 20), rect(0, 1, 20, 20)}, 20, 20, 20, 20, true, append(from(0, 19), times(19, 20)...), append(from(0, 19), times(19, 20)...)},
		{"no cell at the high border", []impl.Rect{rect(0, 0, 20, 19), rect(0, 0, 9, 20), rect(10, 0, 20, 20)}, 20, 20, 21, 20, false, append(times(19, 20), 19), append(append(times(9, 20), 19), times(10, 20)...)},
		{"no cell at the low border", []impl.Rect{rect(0, 1, 20, 20), rect(0, 0, 9, 20), rect(10, 0, 20, 20)}, 20, 20, 21, 20, false, append(from(0, 19), times(19, 20)...), append(append(times(9, 20), 19), times(10, 20)...)},
	} {
		c.checkOver(t)
	}
}

func TestShadowsOfManyRectangles(t *testing.T) {
	one := rect(2, 1, 7, 4)
	apart := from(0, 20, 0, 20, 0, 20, 0, 20, 0, 20, 0, 20, 0, 20)
	for _, c := range []shadowCase{
		{"seven equal ones", slices.Repeat([]impl.Rect{one}, 7), 5, 3, 3, 5, true, from(1, 5, 5, 5), from(2, 3, 3, 3, 3, 3)},
		{"the field seven times", slices.Repeat([]impl.Rect{rect(0, 0, 20, 20)}, 7), 20, 20, 20, 20, true, times(20, 20), times(20, 20)},
		{"seven columns apart", barsApart(7), 7, 20, 140, 7, false, times(20, 7), apart},
		{"seven columns that touch", columnsOf(7), 7, 20, 20, 7, true, times(20, 7), times(7, 20)},
		{"six columns apart, and a row through them", append(barsApart(6), rect(0, 10, 20, 11)), 20, 20, 115, 20, false, append(append(times(10, 6), 20), times(9, 6)...), from(0, 20, 1, 20, 1, 20, 1, 20, 1, 20, 1, 20, 1, 1, 1, 1, 1, 1, 1, 1, 1)},
		{"six columns apart, and the field", append(barsApart(6), rect(0, 0, 20, 20)), 20, 20, 20, 20, true, times(20, 20), times(20, 20)},
		{"seven that touch at corners", stairsOf(7), 7, 7, 7, 7, true, times(7, 1), times(7, 1)},
		{"seven nested", []impl.Rect{rect(6, 6, 14, 14), rect(5, 5, 15, 15), rect(4, 4, 16, 16), rect(3, 3, 17, 17), rect(2, 2, 18, 18), rect(1, 1, 19, 19), rect(0, 0, 20, 20)}, 20, 20, 20, 20, true, times(20, 20), times(20, 20)},
		{"four rows apart, and three columns apart", []impl.Rect{rect(0, 0, 7, 1), rect(0, 2, 7, 3), rect(0, 4, 7, 5), rect(0, 6, 7, 7), rect(1, 0, 2, 7), rect(3, 0, 4, 7), rect(5, 0, 6, 7)}, 7, 7, 13, 19, false, from(0, 7, 3, 7, 3, 7, 3, 7), from(0, 4, 7, 4, 7, 4, 7, 4)},
	} {
		c.checkOver(t)
	}
}

func TestRowCountOfAnyNumbers(t *testing.T) {
	far := []int{2, 5, 10, 100, math.MaxInt32 + 21, math.MinInt32 - 1, 1<<32 + 3, 1<<40 + 3, -math.MaxInt}
	for _, list := range [][]impl.Rect{nil, {}, {rect(2, 0, 7, 4)}, {rect(3, 18, 4, 20)}, slices.Repeat([]impl.Rect{rect(0, 0, 20, 20)}, 7)} {
		perRow := drawnCase(list).perRow
		for _, y := range append(oddNumbers(), far...) {
			want := -1
			if y >= 0 && y < field {
				want = perRow[y]
			}
			if got := impl.RowCount(list, y); got != want {
				t.Error(list, y, got, "want", want)
			}
		}
	}
}

func TestRowCountExamples(t *testing.T) {
	two := []impl.Rect{rect(0, 0, 4, 3), rect(2, 1, 6, 5)}
	for _, c := range []struct {
		name string
		list []impl.Rect
		y    int
		want int
	}{
		{"the first row", two, 0, 4},
		{"a row of both", two, 1, 6},
		{"the last row of both", two, 2, 6},
		{"a row of the second one", two, 4, 4},
		{"the row above both", two, 5, 0},
		{"the last row of the field", two, 19, 0},
		{"one row past the field", two, 20, -1},
		{"one row below the field", two, -1, -1},
		{"a row between two", []impl.Rect{rect(0, 0, 9, 2), rect(0, 3, 9, 5)}, 2, 0},
		{"a row with gaps", []impl.Rect{rect(0, 3, 2, 6), rect(5, 4, 9, 7)}, 5, 6},
		{"a row below the lowest one", []impl.Rect{rect(0, 3, 2, 6)}, 2, 0},
		{"the first row of none", nil, 0, 0},
		{"the last row of none", nil, 19, 0},
		{"no row, of none", nil, 20, -1},
		{"no row below, of none", nil, -1, -1},
		{"the first row, full", []impl.Rect{rect(0, 0, 20, 1)}, 0, 20},
		{"the last row, full", []impl.Rect{rect(0, 19, 20, 20)}, 19, 20},
		{"equal ones, once", slices.Repeat(two[:1], 7), 2, 4},
	} {
		if got := impl.RowCount(c.list, c.y); got != c.want {
			t.Error(c.name, c.list, c.y, got, "want", c.want)
		}
	}
}

func TestShadowsOfInvalidListsHaveFixedResults(t *testing.T) {
	for _, list := range badLists() {
		if columns, rows, ok := impl.ShadowsOf(list); columns != -1 || rows != -1 || ok {
			t.Error("shadows", list, columns, rows, ok)
		}
		if rows, columns, ok := impl.RunsOf(list); rows != -1 || columns != -1 || ok {
			t.Error("runs", list, rows, columns, ok)
		}
		if impl.GapFreeOk(list) {
			t.Error("gap free", list)
		}
		for _, y := range append(oddNumbers(), 2, 3, 7, 18) {
			if got := impl.RowCount(list, y); got != -1 {
				t.Error("row", list, y, got)
			}
		}
	}
}

func TestShadowsOfMaxLaidAndOneMore(t *testing.T) {
	one, eight := rect(2, 1, 7, 4), barsApart(8)
	drawnCase(slices.Repeat([]impl.Rect{one}, 7)).check(t)
	drawnCase(eight[:7]).check(t)
	for _, list := range [][]impl.Rect{slices.Repeat([]impl.Rect{one}, 8), eight, make([]impl.Rect, 8)} {
		columns, rows, ok := impl.ShadowsOf(list)
		inRows, inColumns, told := impl.RunsOf(list)
		if columns != -1 || rows != -1 || ok || inRows != -1 || inColumns != -1 || told {
			t.Error("eight:", list, columns, rows, ok, inRows, inColumns, told)
		}
		if impl.RowCount(list, 1) != -1 || impl.GapFreeOk(list) {
			t.Error("eight:", list, impl.RowCount(list, 1), impl.GapFreeOk(list))
		}
	}
}

func TestShadowsLeaveTheirArgumentsAsTheyWere(t *testing.T) {
	for _, list := range append(shadowLists(), badLists()...) {
		whole, part := guarded(list)
		before := slices.Clone(whole)
		impl.ShadowsOf(part)
		impl.RowCount(part, 3)
		impl.RunsOf(part)
		impl.GapFreeOk(part)
		if !slices.Equal(whole, before) {
			t.Fatal("written to:", before, whole)
		}
	}
}
