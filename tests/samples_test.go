package tests

import (
	"math"

	"loop.example/laidrectangles/impl"
)

// field is the number of columns, and of rows, that tests count cells in. It is written out, so that a wrong MaxSide is noticed.
const field = 20

// cells is a rectangle cell by cell: what the program computes from sides is checked against counts of cells.
type cells [field][field]bool

func cellsOf(r impl.Rect) cells {
	var c cells
	for y := range field {
		for x := range field {
			c[y][x] = r.Left <= x && x < r.Right && r.Low <= y && y < r.High
		}
	}
	return c
}

func (c cells) count() int {
	n := 0
	for y := range field {
		for x := range field {
			if c[y][x] {
				n++
			}
		}
	}
	return n
}

func (c cells) and(d cells) cells {
	for y := range field {
		for x := range field {
			c[y][x] = c[y][x] && d[y][x]
		}
	}
	return c
}

func rect(left, low, right, high int) impl.Rect {
	return impl.Rect{Left: left, Low: low, Right: right, High: high}
}

// rectsOn returns all rectangles whose sides are among numbers that ascend within the field.
func rectsOn(sides ...int) []impl.Rect {
	var out []impl.Rect
	for i, left := range sides {
		for _, right := range sides[i+1:] {
			for j, low := range sides {
				for _, high := range sides[j+1:] {
					out = append(out, rect(left, low, right, high))
				}
			}
		}
	}
	return out
}

// allRects returns every rectangle of the field.
func allRects() []impl.Rect {
	var sides []int
	for s := range field + 1 {
		sides = append(sides, s)
	}
	return rectsOn(sides...)
}

// sampleRects has rectangles of one cell, that touch, that share corners, that are within each other, and at both bounds.
func sampleRects() []impl.Rect {
	return rectsOn(0, 1, 2, 7, 19, 20)
}

// oddNumbers are sides and steps around every bound, and such that sums and differences of them overflow.
func oddNumbers() []int {
	return []int{
		math.MinInt, math.MinInt + 1, math.MinInt + 20, math.MinInt32, -400, -41, -40, -21, -20, -19, -1,
		0, 1, 19, 20, 21, 40, 41, 400, math.MaxInt32, 1 << 32, math.MaxInt - 20, math.MaxInt - 1, math.MaxInt,
	}
}

// badRects returns what is no rectangle: each rule is broken alone, and together with others.
func badRects() []impl.Rect {
	out := []impl.Rect{
		{},
		rect(5, 5, 5, 5),
		rect(3, 0, 3, 4),
		rect(0, 3, 4, 3),
		rect(4, 0, 3, 4),
		rect(0, 4, 4, 3),
		rect(4, 3, 0, 0),
		rect(20, 0, 20, 1),
		rect(0, 20, 1, 20),
		rect(20, 20, 21, 21),
		rect(20, 20, 0, 0),
		rect(-1, -1, 0, 0),
		rect(-1, -1, 21, 21),
		rect(math.MinInt, math.MinInt, math.MaxInt, math.MaxInt),
		rect(math.MaxInt, math.MaxInt, math.MinInt, math.MinInt),
	}
	for _, n := range oddNumbers() {
		if n < 0 {
			out = append(out, rect(n, 0, 4, 4), rect(0, n, 4, 4), rect(0, 0, n, 4), rect(0, 0, 4, n))
		}
		if n > 20 {
			out = append(out, rect(n, 0, 4, 4), rect(0, n, 4, 4), rect(0, 0, n, 4), rect(0, 0, 4, n))
		}
	}
	return out
}
