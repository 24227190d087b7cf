package tests

import (
	"slices"
	"testing"

	"loop.example/laidrectangles/impl"
)

func TestPromise29AreasAreAtMostProductsOfShadows(t *testing.T) {
	product, greater, between := 0, 0, 0
	for _, list := range shadowLists() {
		columns, rows, ok := impl.ShadowsOf(list)
		area := impl.UnionArea(list)
		if !ok || area > columns*rows || area < max(columns, rows) {
			t.Fatal("area:", list, columns, rows, ok, area)
		}
		if overColumns, overRows, ok := impl.ShadowsOf(turnedOver(list)); overColumns != rows || overRows != columns || !ok {
			t.Fatal("turned over:", list, columns, rows, overColumns, overRows, ok)
		}
		if outline := impl.OutlineOf(list); 2*(columns+rows) > outline {
			t.Fatal("outline:", list, columns, rows, outline)
		}
		switch {
		case area == columns*rows && columns != rows:
			product++
		case area == max(columns, rows) && columns != rows:
			greater++
		case area > max(columns, rows):
			between++
		}
	}
	if product < 50 || greater < 50 || between < 50 {
		t.Error("too few samples at one of both bounds, or between them:", product, greater, between)
	}
}

func TestPromise30RowsAddUpToTheUnion(t *testing.T) {
	full, empty := 0, 0
	for _, list := range shadowLists() {
		columns, rows, _ := impl.ShadowsOf(list)
		all, withCells := 0, 0
		for y := range field {
			count := impl.RowCount(list, y)
			if count < 0 || count > columns {
				t.Fatal("at most as many as the shadow has columns:", list, y, count, columns)
			}
			all += count
			if count > 0 {
				withCells++
			}
			if count > 1 && count == columns {
				full++
			}
			if count == 0 {
				empty++
			}
		}
		if all != impl.UnionArea(list) || withCells != rows {
			t.Fatal("all rows together:", list, all, impl.UnionArea(list), withCells, rows)
		}
	}
	if full < 50 || empty < 50 {
		t.Error("too few rows that are as full as the shadow, or that are empty:", full, empty)
	}
}

func TestPromise31TwiceAllRunsAreTheOutline(t *testing.T) {
	moreInRows, moreInColumns := 0, 0
	for _, list := range shadowLists() {
		inRows, inColumns, ok := impl.RunsOf(list)
		if outline := impl.OutlineOf(list); !ok || 2*(inRows+inColumns) != outline {
			t.Fatal("outline:", list, inRows, inColumns, ok, outline)
		}
		columns, rows, _ := impl.ShadowsOf(list)
		if inRows < rows || inColumns < columns {
			t.Fatal("less than the shadow:", list, inRows, rows, inColumns, columns)
		}
		if inRows > rows+1 {
			moreInRows++
		}
		if inColumns > columns+1 {
			moreInColumns++
		}
	}
	if moreInRows < 50 || moreInColumns < 50 {
		t.Error("too few samples with more runs than the shadow:", moreInRows, moreInColumns)
	}
}

func TestPromise32WithoutGapsTheOutlineIsLeast(t *testing.T) {
	holds, not := 0, 0
	for _, list := range shadowLists() {
		columns, rows, _ := impl.ShadowsOf(list)
		least := impl.OutlineOf(list) == 2*(columns+rows)
		if got := impl.GapFreeOk(list); got != least {
			t.Fatal(list, got, columns, rows, impl.OutlineOf(list))
		}
		if least && len(list) > 1 {
			holds++
		}
		if !least {
			not++
		}
	}
	if holds < 100 || not < 100 {
		t.Error("too few samples of one kind:", holds, not)
	}
}

func TestPromise32OneRectangleHasNoGap(t *testing.T) {
	for _, r := range allRects() {
		list := []impl.Rect{r}
		if !impl.GapFreeOk(list) {
			t.Fatal(r)
		}
		columns, rows, _ := impl.ShadowsOf(list)
		inRows, inColumns, _ := impl.RunsOf(list)
		if columns != r.Right-r.Left || rows != r.High-r.Low || inRows != rows || inColumns != columns {
			t.Fatal(r, columns, rows, inRows, inColumns)
		}
	}
}

// Rectangles over one cell leave no gap: beside that cell's row and column each one goes on.
func TestRectanglesOverOneCellHaveNoGap(t *testing.T) {
	draw := drawing(32)
	for count := 1; count <= laid; count++ {
		for range 200 {
			if list := draw.around(count, 20); !impl.GapFreeOk(list) {
				t.Fatal(list)
			}
		}
	}
}

// What is within the union already changes nothing; any other rectangle makes no shadow less, and no row.
func TestShadowsWithAFurtherRectangle(t *testing.T) {
	draw := drawing(29)
	for _, list := range shadowLists() {
		columns, rows, _ := impl.ShadowsOf(list)
		for _, r := range append(draw.bars(2, 6), draw.rect(20), rect(0, 0, 20, 20), rect(19, 19, 20, 20)) {
			longer, ok := impl.WithOne(list, r)
			if !ok {
				continue
			}
			withColumns, withRows, _ := impl.ShadowsOf(longer)
			if withColumns < columns || withColumns > columns+r.Right-r.Left || withRows < rows || withRows > rows+r.High-r.Low {
				t.Fatal(list, r, columns, rows, withColumns, withRows)
			}
			for y := range field {
				before, after := impl.RowCount(list, y), impl.RowCount(longer, y)
				if over := r.Low <= y && y < r.High; after < before || !over && after != before || over && after < r.Right-r.Left {
					t.Fatal(list, r, y, before, after)
				}
			}
		}
		if len(list) > 0 && len(list) < laid {
			c := drawnCase(list)
			c.name, c.list = "with one of them again", append(slices.Clone(list), list[len(list)/2])
			c.check(t)
		}
	}
}

// What is told does not depend on the order, and moved up all rows are moved up.
func TestShadowsAreTheSameReversedAndMoved(t *testing.T) {
	for _, list := range shadowLists() {
		c := shadowCase{name: "reversed", list: slices.Clone(list), gapFree: impl.GapFreeOk(list)}
		slices.Reverse(c.list)
		c.columns, c.rows, _ = impl.ShadowsOf(list)
		c.inRows, c.inColumns, _ = impl.RunsOf(list)
		for y := range field {
			c.perRow = append(c.perRow, impl.RowCount(list, y))
		}
		c.check(t)
		perRow := c.perRow
		for _, step := range [][2]int{{1, 0}, {0, 1}, {14, 14}, {17, 3}} {
			if moved, ok := movedList(list, step[0], step[1]); ok {
				c.name, c.list, c.perRow = "moved", moved, from(step[1], perRow...)
				c.check(t)
			}
		}
	}
}
