package tests

import (
	"cmp"
	"math"
	"slices"

	"loop.example/laidrectangles/impl"
)

// mostDots is the greatest number of dots. It is written out, so that a wrong MaxDots is noticed.
const mostDots = 12

func dot(x, y int) impl.Dot {
	return impl.Dot{X: x, Y: y}
}

// inOrder puts dots in order: by X, and those with the same X by Y.
func inOrder(dots []impl.Dot) []impl.Dot {
	out := slices.Clone(dots)
	slices.SortFunc(out, func(a, b impl.Dot) int {
		return cmp.Or(cmp.Compare(a.X, b.X), cmp.Compare(a.Y, b.Y))
	})
	return out
}

// dotsAt reads dots from a picture: its last line is the row at low, its first sign the column at left, and a star is a dot.
func dotsAt(left, low int, lines ...string) []impl.Dot {
	var out []impl.Dot
	for i, line := range lines {
		for x, sign := range line {
			if sign == '*' {
				out = append(out, dot(left+x, low+len(lines)-1-i))
			}
		}
	}
	return inOrder(out)
}

// dotsOf returns a dot for each cell of a rectangle.
func dotsOf(r impl.Rect) []impl.Dot {
	var out []impl.Dot
	for x := r.Left; x < r.Right; x++ {
		for y := r.Low; y < r.High; y++ {
			out = append(out, dot(x, y))
		}
	}
	return out
}

// dotsOver turns dots over, and puts them in order again.
func dotsOver(dots []impl.Dot) []impl.Dot {
	var out []impl.Dot
	for _, d := range dots {
		out = append(out, dot(d.Y, d.X))
	}
	return inOrder(out)
}

// dots draws so many dots, no two equal, with numbers below a width; fewer if there are not so many cells.
func (d *drawing) dots(count, width int) []impl.Dot {
	var out []impl.Dot
	for len(out) < min(count, width*width) {
		if one := dot(d.below(width), d.below(width)); !slices.Contains(out, one) {
			out = append(out, one)
		}
	}
	return inOrder(out)
}

// dotCells has a cell for each dot.
func dotCells(dots []impl.Dot) cells {
	var c cells
	for _, d := range dots {
		c[d.Y][d.X] = true
	}
	return c
}

// noneIn tells cell by cell that none of a rectangle is there.
func (c cells) noneIn(r impl.Rect) bool {
	for y := r.Low; y < r.High; y++ {
		for x := r.Left; x < r.Right; x++ {
			if c[y][x] {
				return false
			}
		}
	}
	return true
}

func inside(r, s impl.Rect) bool {
	return s.Left <= r.Left && s.Low <= r.Low && r.Right <= s.Right && r.High <= s.High
}

func areaOf(r impl.Rect) int {
	return (r.Right - r.Left) * (r.High - r.Low)
}

// rectsInOrder puts rectangles in the order of Left, Low, Right and High.
func rectsInOrder(list []impl.Rect) []impl.Rect {
	out := slices.Clone(list)
	slices.SortFunc(out, compareRects)
	return out
}

func compareRects(a, b impl.Rect) int {
	return cmp.Or(cmp.Compare(a.Left, b.Left), cmp.Compare(a.Low, b.Low), cmp.Compare(a.Right, b.Right), cmp.Compare(a.High, b.High))
}

// emptyIn returns the rectangles within an area that have no dot, in the order of Left, Low, Right and High.
func emptyIn(dots []impl.Dot, area impl.Rect) []impl.Rect {
	c := dotCells(dots)
	var out []impl.Rect
	for left := area.Left; left < area.Right; left++ {
		for low := area.Low; low < area.High; low++ {
			for right := left + 1; right <= area.Right; right++ {
				for high := low + 1; high <= area.High; high++ {
					if r := rect(left, low, right, high); c.noneIn(r) {
						out = append(out, r)
					}
				}
			}
		}
	}
	return out
}

// widestByPairs compares each empty rectangle with each other one, as the document has it; for small areas.
func widestByPairs(empty []impl.Rect) []impl.Rect {
	var out []impl.Rect
	for _, r := range empty {
		if !slices.ContainsFunc(empty, func(s impl.Rect) bool { return s != r && inside(r, s) }) {
			out = append(out, r)
		}
	}
	return out
}

// widestByDots returns those of the empty rectangles of which each side is one of the area's, or has a dot right behind it.
func widestByDots(dots []impl.Dot, area impl.Rect, empty []impl.Rect) []impl.Rect {
	c := dotCells(dots)
	var out []impl.Rect
	for _, r := range empty {
		left := r.Left == area.Left || !c.noneIn(rect(r.Left-1, r.Low, r.Left, r.High))
		low := r.Low == area.Low || !c.noneIn(rect(r.Left, r.Low-1, r.Right, r.Low))
		right := r.Right == area.Right || !c.noneIn(rect(r.Right, r.Low, r.Right+1, r.High))
		high := r.High == area.High || !c.noneIn(rect(r.Left, r.High, r.Right, r.High+1))
		if left && low && right && high {
			out = append(out, r)
		}
	}
	return out
}

// firstGreatest returns the first rectangle with the greatest area, or the zero value of none.
func firstGreatest(list []impl.Rect) impl.Rect {
	var first impl.Rect
	for _, r := range slices.Backward(list) {
		if areaOf(r) >= areaOf(first) {
			first = r
		}
	}
	return first
}

// chessboard has the twelve black cells of four columns and six rows.
func chessboard(left, low int) []impl.Dot {
	return dotsAt(left, low, "*.*.", ".*.*", "*.*.", ".*.*", "*.*.", ".*.*")
}

// sampleDots returns dots of every number up to mostDots: none, in corners and along sides, beside and across each other, as full blocks, and drawn ones.
func sampleDots() [][]impl.Dot {
	draw := drawing(8)
	out := [][]impl.Dot{
		nil,
		{},
		{dot(0, 0)},
		{dot(19, 19)},
		{dot(0, 19)},
		{dot(19, 0)},
		{dot(9, 9)},
		{dot(10, 10)},
		{dot(0, 0), dot(0, 19), dot(19, 0), dot(19, 19)},
		{dot(0, 9), dot(9, 0), dot(9, 19), dot(19, 9)},
		dotsAt(3, 3, "**"),
		dotsAt(3, 3, "*", "*"),
		dotsAt(3, 3, "*.", ".*"),
		dotsAt(3, 3, ".*", "*."),
		dotsAt(1, 1, "***", "*.*", "***"),
		dotsAt(0, 0, ".*..", "...*", "*...", "..*."),
		chessboard(0, 0),
		chessboard(16, 14),
		dotsOver(chessboard(3, 8)),
		dotsAt(4, 4, "...........*", "..........*.", ".........*..", "........*...", ".......*....", "......*.....", ".....*......", "....*.......", "...*........", "..*.........", ".*..........", "*..........."),
		dotsAt(4, 4, "*...........", ".*..........", "..*.........", "...*........", "....*.......", ".....*......", "......*.....", ".......*....", "........*...", ".........*..", "..........*.", "...........*"),
	}
	for _, full := range []impl.Rect{rect(0, 0, 3, 4), rect(0, 0, 4, 3), rect(17, 16, 20, 20), rect(0, 0, 12, 1), rect(0, 0, 1, 12), rect(8, 19, 20, 20), rect(19, 8, 20, 20), rect(9, 7, 11, 13)} {
		out = append(out, dotsOf(full), dotsOf(full)[1:], dotsOf(full)[:11])
	}
	for _, width := range []int{3, 5, 9, 20} {
		for count := 1; count <= mostDots; count++ {
			for range 2 {
				out = append(out, draw.dots(count, width))
			}
		}
	}
	return out
}

// sampleAreas returns the whole field, rows, columns and single cells of it, and others.
func sampleAreas() []impl.Rect {
	return []impl.Rect{
		rect(0, 0, 20, 20), rect(0, 0, 1, 1), rect(19, 19, 20, 20), rect(4, 4, 5, 5),
		rect(0, 0, 3, 4), rect(0, 0, 4, 3), rect(1, 1, 6, 5), rect(17, 16, 20, 20), rect(3, 2, 9, 10),
		rect(0, 0, 20, 1), rect(0, 0, 1, 20), rect(0, 19, 20, 20), rect(19, 0, 20, 20), rect(0, 9, 20, 10),
	}
}

// badDots returns what is no list of dots: each rule is broken alone, at each place, and there are too many.
func badDots() [][]impl.Dot {
	good := dotsAt(3, 4, "*.*", "**.", ".**")
	out := [][]impl.Dot{
		{dot(-1, -1)}, {dot(20, 20)}, {dot(math.MinInt, math.MinInt)}, {dot(math.MaxInt, math.MaxInt)},
		{dot(2, 0), dot(1, 0)}, {dot(1, 1), dot(1, 0)}, {dot(2, 0), dot(1, 5)}, {dot(2, 5), dot(1, 0)},
		{dot(0, 0), dot(0, 0)}, {dot(19, 19), dot(0, 0)}, {dot(0, 0), dot(1, 1), dot(0, 1)},
	}
	for _, n := range oddNumbers() {
		if n < 0 || n > 19 {
			out = append(out, []impl.Dot{dot(n, 0)}, []impl.Dot{dot(0, n)}, []impl.Dot{dot(n, 19)}, []impl.Dot{dot(19, n)})
		}
	}
	for place, d := range good {
		for _, bad := range []impl.Dot{dot(d.X, -1), dot(d.X, 20), dot(-1, d.Y), dot(20, d.Y)} {
			list := slices.Clone(good)
			list[place] = bad
			out = append(out, list, inOrder(list))
		}
		out = append(out, slices.Insert(slices.Clone(good), place, d))
		for before := range place {
			list := slices.Clone(good)
			list[before], list[place] = list[place], list[before]
			out = append(out, list)
		}
	}
	return append(out,
		dotsOf(rect(0, 0, 13, 1)), dotsOf(rect(0, 0, 1, 13)), dotsOf(rect(7, 6, 14, 8)), dotsOf(rect(0, 0, 20, 20)),
		make([]impl.Dot, 2), make([]impl.Dot, 13), make([]impl.Dot, 400), slices.Repeat([]impl.Dot{dot(19, 19)}, 13))
}
