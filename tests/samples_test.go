package tests

import (
	"math"
	"slices"

	"loop.example/laidrectangles/impl"
)

// field is the number of columns, and of rows, that tests count cells in. It is written out, so that a wrong MaxSide is noticed.
const field = 20

// cells is a rectangle cell by cell: what the program computes from sides is checked against counts of cells.
type cells [field][field]bool

func cellsOf(r impl.Rect) cells {
	var c cells
	for y := range field {
		for x := range field {
			c[y][x] = r.Left <= x && x < r.Right && r.Low <= y && y < r.High
		}
	}
	return c
}

func (c cells) count() int {
	n := 0
	for y := range field {
		for x := range field {
			if c[y][x] {
				n++
			}
		}
	}
	return n
}

func (c cells) or(d cells) cells {
	for y := range field {
		for x := range field {
			c[y][x] = c[y][x] || d[y][x]
		}
	}
	return c
}

func (c cells) and(d cells) cells {
	for y := range field {
		for x := range field {
			c[y][x] = c[y][x] && d[y][x]
		}
	}
	return c
}

// unionCells has the cells of at least one rectangle.
func unionCells(list []impl.Rect) cells {
	var c cells
	for _, r := range list {
		c = c.or(cellsOf(r))
	}
	return c
}

// depths tells for each cell how many rectangles have it.
type depths [field][field]int

func depthsOf(list []impl.Rect) depths {
	var d depths
	for _, r := range list {
		c := cellsOf(r)
		for y := range field {
			for x := range field {
				if c[y][x] {
					d[y][x]++
				}
			}
		}
	}
	return d
}

// areasOf adds the areas of all rectangles, also of what they share.
func areasOf(list []impl.Rect) int {
	all := 0
	for _, r := range list {
		all += impl.AreaOf(r)
	}
	return all
}

func rect(left, low, right, high int) impl.Rect {
	return impl.Rect{Left: left, Low: low, Right: right, High: high}
}

// rectsOn returns all rectangles whose sides are among numbers that ascend within the field.
func rectsOn(sides ...int) []impl.Rect {
	var out []impl.Rect
	for i, left := range sides {
		for _, right := range sides[i+1:] {
			for j, low := range sides {
				for _, high := range sides[j+1:] {
					out = append(out, rect(left, low, right, high))
				}
			}
		}
	}
	return out
}

// allRects returns every rectangle of the field.
func allRects() []impl.Rect {
	var sides []int
	for s := range field + 1 {
		sides = append(sides, s)
	}
	return rectsOn(sides...)
}

// sampleRects has rectangles of one cell, that touch, that share corners, that are within each other, and at both bounds.
func sampleRects() []impl.Rect {
	return rectsOn(0, 1, 2, 7, 19, 20)
}

// oddNumbers are sides and steps around every bound, and such that sums and differences of them overflow.
func oddNumbers() []int {
	return []int{
		math.MinInt, math.MinInt + 1, math.MinInt + 20, math.MinInt32, -400, -41, -40, -21, -20, -19, -1,
		0, 1, 19, 20, 21, 40, 41, 400, math.MaxInt32, 1 << 32, math.MaxInt - 20, math.MaxInt - 1, math.MaxInt,
	}
}

// badRects returns what is no rectangle: each rule is broken alone, and together with others.
func badRects() []impl.Rect {
	out := []impl.Rect{
		{},
		rect(5, 5, 5, 5),
		rect(3, 0, 3, 4),
		rect(0, 3, 4, 3),
		rect(4, 0, 3, 4),
		rect(0, 4, 4, 3),
		rect(4, 3, 0, 0),
		rect(20, 0, 20, 1),
		rect(0, 20, 1, 20),
		rect(20, 20, 21, 21),
		rect(20, 20, 0, 0),
		rect(-1, -1, 0, 0),
		rect(-1, -1, 21, 21),
		rect(math.MinInt, math.MinInt, math.MaxInt, math.MaxInt),
		rect(math.MaxInt, math.MaxInt, math.MinInt, math.MinInt),
	}
	for _, n := range oddNumbers() {
		if n < 0 {
			out = append(out, rect(n, 0, 4, 4), rect(0, n, 4, 4), rect(0, 0, n, 4), rect(0, 0, 4, n))
		}
		if n > 20 {
			out = append(out, rect(n, 0, 4, 4), rect(0, n, 4, 4), rect(0, 0, n, 4), rect(0, 0, 4, n))
		}
	}
	return out
}

// laid is the greatest number of rectangles in a list. It is written out, so that a wrong MaxLaid is noticed.
const laid = 7

// sampleLists returns lists of every length up to laid: none, equal ones, ones that touch, ones within each other, ones that are apart, and drawn ones.
func sampleLists() [][]impl.Rect {
	whole, cell := rect(0, 0, 20, 20), rect(7, 7, 8, 8)
	draw := drawing(1)
	out := [][]impl.Rect{
		nil,
		{},
		{whole},
		{cell},
		{cell, cell},
		{rect(0, 0, 4, 3), rect(2, 1, 6, 5)},
		{rect(0, 0, 4, 3), rect(2, 1, 6, 5), rect(3, 2, 5, 3)},
		{rect(2, 2, 9, 9), rect(4, 4, 5, 5), rect(2, 2, 9, 9)},
		{whole, rect(1, 1, 19, 19), rect(3, 3, 17, 17), rect(5, 5, 12, 12), rect(7, 7, 9, 9), cell, cell},
		{rect(0, 0, 5, 5), rect(5, 0, 10, 5), rect(0, 5, 5, 10), rect(5, 5, 10, 10)},                     // touch along sides
		{rect(0, 0, 3, 3), rect(3, 3, 6, 6), rect(6, 6, 9, 9), rect(9, 9, 20, 20)},                       // touch at corners
		{rect(2, 2, 10, 4), rect(8, 2, 10, 10), rect(2, 8, 10, 10), rect(2, 2, 4, 10)},                   // around a hole
		{rect(2, 2, 8, 4), rect(8, 2, 10, 8), rect(4, 8, 10, 10), rect(2, 4, 4, 10)},                     // a windmill
		{rect(2, 2, 8, 4), rect(8, 2, 10, 8), rect(4, 8, 10, 10), rect(2, 4, 4, 10), rect(4, 4, 8, 8)},   // a windmill that is filled
		{rect(0, 9, 20, 11), rect(9, 0, 11, 20)},                                                         // a cross
		{rect(0, 0, 6, 6), rect(5, 0, 12, 6), rect(5, 5, 12, 12), rect(0, 5, 6, 12), rect(8, 8, 20, 20)}, // some meet at one cell
		{rect(0, 0, 1, 1), rect(19, 19, 20, 20), rect(0, 19, 1, 20), rect(19, 0, 20, 1)},
		{rect(0, 0, 2, 20), rect(1, 0, 4, 20), rect(3, 0, 8, 20), rect(6, 0, 20, 20), rect(10, 0, 12, 20)},
		{rect(0, 4, 20, 5), rect(0, 5, 20, 6), rect(0, 6, 20, 7), rect(0, 7, 20, 8), rect(0, 8, 20, 9), rect(0, 9, 20, 10), rect(0, 10, 20, 11)},
		{whole, whole, whole, whole, whole, whole, whole},
		{cell, cell, cell, cell, cell, cell, cell},
	}
	for _, width := range []int{3, 6, 12, 20} {
		for count := range laid + 1 {
			for range 12 {
				out = append(out, draw.list(count, width))
			}
		}
	}
	return out
}

// drawing draws numbers by a rule of its own, so that each run of the tests has the same samples.
type drawing uint64

func (d *drawing) below(n int) int {
	*d = *d*6364136223846793005 + 1442695040888963407
	return int(uint64(*d)>>33) % n
}

// span draws two numbers that ascend, from 0 up to width.
func (d *drawing) span(width int) (int, int) {
	from := d.below(width)
	return from, from + 1 + d.below(width-from)
}

func (d *drawing) rect(width int) impl.Rect {
	left, right := d.span(width)
	low, high := d.span(width)
	return rect(left, low, right, high)
}

func (d *drawing) list(count, width int) []impl.Rect {
	var out []impl.Rect
	for range count {
		out = append(out, d.rect(width))
	}
	return out
}

// badLists returns what is no list of rectangles that are laid: with one element that is no rectangle, at each place, or with too many.
func badLists() [][]impl.Rect {
	good := rect(2, 1, 6, 5)
	draw := drawing(2)
	var out [][]impl.Rect
	for _, bad := range badRects() {
		out = append(out, []impl.Rect{bad})
	}
	for count := 2; count <= laid; count++ {
		for place := range count {
			for _, bad := range []impl.Rect{{}, rect(-1, 0, 4, 4), rect(0, 0, 4, 21), rect(math.MinInt, 0, math.MaxInt, 4)} {
				list := slices.Repeat([]impl.Rect{good}, count)
				list[place] = bad
				out = append(out, list)
			}
		}
	}
	for _, count := range []int{laid + 1, laid + 2, 64, 400} {
		out = append(out, slices.Repeat([]impl.Rect{good}, count), make([]impl.Rect, count))
	}
	return append(out, draw.list(laid+1, 20))
}
