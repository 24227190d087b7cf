package tests

import (
	"slices"
	"testing"

	"loop.example/laidrectangles/impl"
)

// emptyCase is dots in a field with what is to be told of its empty rectangles.
type emptyCase struct {
	name     string
	dots     []impl.Dot
	area     impl.Rect
	widest   []impl.Rect
	greatest impl.Rect // the zero value for none
}

func (c emptyCase) check(t *testing.T) {
	t.Helper()
	if got := impl.WidestOf(c.dots, c.area); !slices.Equal(got, c.widest) {
		t.Error("widest:", c.name, c.dots, c.area, got, "want", c.widest)
	}
	if got, ok := impl.GreatestEmpty(c.dots, c.area); got != c.greatest || ok != (len(c.widest) > 0) {
		t.Error("greatest:", c.name, c.dots, c.area, got, ok, "want", c.greatest)
	}
}

// checkOver does so with dots and field turned over too: what is told is turned over then, and in order again.
func (c emptyCase) checkOver(t *testing.T) {
	t.Helper()
	c.check(t)
	c.name, c.dots, c.area = c.name+", turned over", dotsOver(c.dots), turnedOver([]impl.Rect{c.area})[0]
	c.widest = rectsInOrder(turnedOver(c.widest))
	c.greatest = firstGreatest(c.widest)
	c.check(t)
}

func TestMaxDotsIsTwelve(t *testing.T) {
	if impl.MaxDots != 12 {
		t.Fatal(impl.MaxDots)
	}
}

func TestDotsOk(t *testing.T) {
	for _, dots := range sampleDots() {
		if !impl.DotsOk(dots) {
			t.Error("no dots:", dots)
		}
	}
	for _, dots := range badDots() {
		if impl.DotsOk(dots) {
			t.Error("dots:", dots)
		}
	}
}

func TestDotsOkOfEachDot(t *testing.T) {
	numbers := append(oddNumbers(), 2, 10, 18)
	for _, x := range numbers {
		for _, y := range numbers {
			want := 0 <= x && x <= 19 && 0 <= y && y <= 19
			if got := impl.DotsOk([]impl.Dot{dot(x, y)}); got != want {
				t.Error(x, y, got)
			}
		}
	}
}

func TestDotsOkOfEachTwo(t *testing.T) {
	all := dotsOf(rect(0, 0, 20, 20))
	for i, d := range all {
		for j, e := range all {
			if got := impl.DotsOk([]impl.Dot{d, e}); got != (i < j) {
				t.Fatal(d, e, got)
			}
		}
	}
}

func TestDotsOkAtMaxDots(t *testing.T) {
	for _, all := range [][]impl.Dot{dotsOf(rect(0, 0, 13, 1)), dotsOf(rect(19, 7, 20, 20)), dotsOf(rect(3, 0, 4, 20)), dotsOf(rect(0, 0, 20, 20))} {
		for count := range all {
			if got := impl.DotsOk(all[:count]); got != (count <= 12) {
				t.Error(all[:count], got)
			}
		}
	}
}

func TestEmptyOkLooksAtEachCell(t *testing.T) {
	draw := drawing(80)
	for _, dots := range sampleDots() {
		c := dotCells(dots)
		rects := append(sampleAreas(), sampleRects()...)
		for range 400 {
			rects = append(rects, draw.rect(5), draw.rect(20))
		}
		for _, r := range rects {
			if got, want := impl.EmptyOk(dots, r), c.noneIn(r); got != want {
				t.Fatal(dots, r, got, "want", want)
			}
		}
	}
}

func TestEmptyOkOfOneDot(t *testing.T) {
	r := rect(4, 7, 9, 10)
	for _, d := range dotsOf(rect(0, 0, 20, 20)) {
		has := d.X >= 4 && d.X <= 8 && d.Y >= 7 && d.Y <= 9
		if got := impl.EmptyOk([]impl.Dot{d}, r); got == has {
			t.Error(d, r, got)
		}
	}
	for _, r := range allRects() {
		if got, want := impl.EmptyOk([]impl.Dot{dot(9, 12)}, r), !(r.Left <= 9 && r.Right >= 10 && r.Low <= 12 && r.High >= 13); got != want {
			t.Fatal(r, got)
		}
	}
}

func TestEmptyOkExamples(t *testing.T) {
	cell := rect(5, 5, 6, 6)
	for _, c := range []struct {
		name string
		dots []impl.Dot
		r    impl.Rect
		want bool
	}{
		{"no dots", nil, rect(0, 0, 20, 20), true},
		{"no dots, and not nil", []impl.Dot{}, cell, true},
		{"the dot's cell", []impl.Dot{dot(5, 5)}, cell, false},
		{"dots around the cell", dotsAt(4, 4, "***", "*.*", "***"), cell, true},
		{"a full block", dotsOf(rect(4, 4, 7, 7)), cell, false},
		{"at the low left corner", []impl.Dot{dot(2, 3)}, rect(2, 3, 6, 9), false},
		{"at the high right corner", []impl.Dot{dot(5, 8)}, rect(2, 3, 6, 9), false},
		{"to the left", []impl.Dot{dot(1, 3)}, rect(2, 3, 6, 9), true},
		{"below", []impl.Dot{dot(2, 2)}, rect(2, 3, 6, 9), true},
		{"to the right", []impl.Dot{dot(6, 8)}, rect(2, 3, 6, 9), true},
		{"above", []impl.Dot{dot(5, 9)}, rect(2, 3, 6, 9), true},
		{"the first dot alone is in it", []impl.Dot{dot(2, 3), dot(7, 3), dot(7, 4)}, rect(2, 3, 6, 9), false},
		{"the middle dot alone is in it", []impl.Dot{dot(1, 3), dot(3, 3), dot(7, 4)}, rect(2, 3, 6, 9), false},
		{"the last dot alone is in it", []impl.Dot{dot(1, 3), dot(1, 4), dot(5, 4)}, rect(2, 3, 6, 9), false},
		{"the twelfth dot alone is in it", append(dotsOf(rect(0, 0, 11, 1)), dot(11, 5)), rect(11, 4, 13, 6), false},
		{"the field's last cell", []impl.Dot{dot(19, 19)}, rect(0, 0, 20, 20), false},
		{"the field's first cell", []impl.Dot{dot(0, 0)}, rect(0, 0, 20, 20), false},
	} {
		if got := impl.EmptyOk(c.dots, c.r); got != c.want {
			t.Error(c.name, c.dots, c.r, got)
		}
	}
}

func TestWidestWithoutDotsAreTheField(t *testing.T) {
	for _, area := range append(sampleAreas(), sampleRects()...) {
		for _, dots := range [][]impl.Dot{nil, {}} {
			emptyCase{"no dots", dots, area, []impl.Rect{area}, area}.check(t)
		}
	}
}

func TestWidestOfFieldsOfOneCell(t *testing.T) {
	for _, d := range dotsOf(rect(0, 0, 20, 20)) {
		cell := rect(d.X, d.Y, d.X+1, d.Y+1)
		emptyCase{"without a dot", nil, cell, []impl.Rect{cell}, cell}.check(t)
		emptyCase{"with a dot", []impl.Dot{d}, cell, nil, impl.Rect{}}.check(t)
		if d != dot(19, 19) {
			emptyCase{"with a dot elsewhere", []impl.Dot{dot(19, 19)}, cell, []impl.Rect{cell}, cell}.check(t)
		}
	}
	cell := rect(5, 5, 6, 6)
	emptyCase{"with dots all around", dotsAt(4, 4, "***", "*.*", "***"), cell, []impl.Rect{cell}, cell}.check(t)
	emptyCase{"with dots all around and in it", dotsAt(4, 4, "***", "***", "***"), cell, nil, impl.Rect{}}.check(t)
}

func TestWidestOfFieldsFullOfDots(t *testing.T) {
	for _, full := range []impl.Rect{rect(0, 0, 3, 4), rect(17, 16, 20, 20), rect(0, 0, 12, 1), rect(8, 19, 20, 20), rect(9, 7, 11, 13), rect(4, 4, 7, 7), rect(2, 1, 3, 2)} {
		all := dotsOf(full)
		emptyCase{"full", all, full, nil, impl.Rect{}}.checkOver(t)
		for i, d := range all {
			cell := rect(d.X, d.Y, d.X+1, d.Y+1)
			others := slices.Delete(slices.Clone(all), i, i+1)
			emptyCase{"full but for one cell", others, full, []impl.Rect{cell}, cell}.checkOver(t)
			emptyCase{"a cell of what is full", all, cell, nil, impl.Rect{}}.checkOver(t)
		}
	}
	emptyCase{"a part of what is full", dotsOf(rect(0, 0, 3, 4)), rect(1, 1, 3, 3), nil, impl.Rect{}}.checkOver(t)
	emptyCase{"full, and one column more", dotsOf(rect(0, 0, 3, 4)), rect(0, 0, 4, 4), []impl.Rect{rect(3, 0, 4, 4)}, rect(3, 0, 4, 4)}.checkOver(t)
	emptyCase{"full, and one row more below", dotsOf(rect(2, 2, 5, 6)), rect(2, 1, 5, 6), []impl.Rect{rect(2, 1, 5, 2)}, rect(2, 1, 5, 2)}.checkOver(t)
}

func TestWidestWithDotsOutsideTheField(t *testing.T) {
	area := rect(4, 6, 9, 8)
	for _, c := range []struct {
		name string
		dots []impl.Dot
	}{
		{"on the left", []impl.Dot{dot(3, 6), dot(3, 7)}},
		{"on the right", []impl.Dot{dot(9, 6), dot(9, 7)}},
		{"below", []impl.Dot{dot(4, 5), dot(8, 5)}},
		{"above", []impl.Dot{dot(4, 8), dot(8, 8)}},
		{"across its corners", []impl.Dot{dot(3, 5), dot(3, 8), dot(9, 5), dot(9, 8)}},
		{"far", []impl.Dot{dot(0, 0), dot(0, 19), dot(19, 0), dot(19, 19)}},
		{"in its rows and columns", []impl.Dot{dot(0, 6), dot(0, 7), dot(5, 0), dot(5, 19), dot(19, 6)}},
	} {
		emptyCase{c.name, c.dots, area, []impl.Rect{area}, area}.checkOver(t)
		with := inOrder(append(slices.Clone(c.dots), dot(4, 7)))
		emptyCase{c.name + ", and one in it", with, area, []impl.Rect{rect(4, 6, 9, 7), rect(5, 6, 9, 8)}, rect(5, 6, 9, 8)}.checkOver(t)
	}
}

func TestWidestAroundOneDot(t *testing.T) {
	whole, three := rect(0, 0, 20, 20), rect(0, 0, 3, 3)
	for _, c := range []emptyCase{
		{"in the middle of three", []impl.Dot{dot(1, 1)}, three, []impl.Rect{rect(0, 0, 1, 3), rect(0, 0, 3, 1), rect(0, 2, 3, 3), rect(2, 0, 3, 3)}, rect(0, 0, 1, 3)},
		{"in the middle of five rows", []impl.Dot{dot(9, 8)}, rect(8, 6, 11, 11), []impl.Rect{rect(8, 6, 9, 11), rect(8, 6, 11, 8), rect(8, 9, 11, 11), rect(10, 6, 11, 11)}, rect(8, 6, 11, 8)},
		{"left and below of the field's middle", []impl.Dot{dot(9, 9)}, whole, []impl.Rect{rect(0, 0, 9, 20), rect(0, 0, 20, 9), rect(0, 10, 20, 20), rect(10, 0, 20, 20)}, rect(0, 10, 20, 20)},
		{"right and above of the field's middle", []impl.Dot{dot(10, 10)}, whole, []impl.Rect{rect(0, 0, 10, 20), rect(0, 0, 20, 10), rect(0, 11, 20, 20), rect(11, 0, 20, 20)}, rect(0, 0, 10, 20)},
		{"in the low left corner", []impl.Dot{dot(0, 0)}, three, []impl.Rect{rect(0, 1, 3, 3), rect(1, 0, 3, 3)}, rect(0, 1, 3, 3)},
		{"in the high left corner", []impl.Dot{dot(0, 2)}, three, []impl.Rect{rect(0, 0, 3, 2), rect(1, 0, 3, 3)}, rect(0, 0, 3, 2)},
		{"in the low right corner", []impl.Dot{dot(2, 0)}, three, []impl.Rect{rect(0, 0, 2, 3), rect(0, 1, 3, 3)}, rect(0, 0, 2, 3)},
		{"in the high right corner", []impl.Dot{dot(2, 2)}, three, []impl.Rect{rect(0, 0, 2, 3), rect(0, 0, 3, 2)}, rect(0, 0, 2, 3)},
		{"in the field's low left corner", []impl.Dot{dot(0, 0)}, whole, []impl.Rect{rect(0, 1, 20, 20), rect(1, 0, 20, 20)}, rect(0, 1, 20, 20)},
		{"in the field's high right corner", []impl.Dot{dot(19, 19)}, whole, []impl.Rect{rect(0, 0, 19, 20), rect(0, 0, 20, 19)}, rect(0, 0, 19, 20)},
		{"at the left side", []impl.Dot{dot(0, 1)}, three, []impl.Rect{rect(0, 0, 3, 1), rect(0, 2, 3, 3), rect(1, 0, 3, 3)}, rect(1, 0, 3, 3)},
		{"at the low side", []impl.Dot{dot(1, 0)}, three, []impl.Rect{rect(0, 0, 1, 3), rect(0, 1, 3, 3), rect(2, 0, 3, 3)}, rect(0, 1, 3, 3)},
		{"at the right side", []impl.Dot{dot(2, 1)}, three, []impl.Rect{rect(0, 0, 2, 3), rect(0, 0, 3, 1), rect(0, 2, 3, 3)}, rect(0, 0, 2, 3)},
		{"at the high side", []impl.Dot{dot(1, 2)}, three, []impl.Rect{rect(0, 0, 1, 3), rect(0, 0, 3, 2), rect(2, 0, 3, 3)}, rect(0, 0, 3, 2)},
		{"in a row", []impl.Dot{dot(3, 4)}, rect(2, 4, 7, 5), []impl.Rect{rect(2, 4, 3, 5), rect(4, 4, 7, 5)}, rect(4, 4, 7, 5)},
		{"at the end of a row", []impl.Dot{dot(6, 4)}, rect(2, 4, 7, 5), []impl.Rect{rect(2, 4, 6, 5)}, rect(2, 4, 6, 5)},
	} {
		c.checkOver(t)
	}
}

func TestWidestAroundSomeDots(t *testing.T) {
	three, four := rect(0, 0, 3, 3), rect(0, 0, 4, 4)
	for _, c := range []emptyCase{
		{"next to each other in a row", dotsAt(1, 1, "**"), rect(0, 0, 4, 3), []impl.Rect{rect(0, 0, 1, 3), rect(0, 0, 4, 1), rect(0, 2, 4, 3), rect(3, 0, 4, 3)}, rect(0, 0, 4, 1)},
		{"next to each other in a column", dotsAt(1, 1, "*", "*"), rect(0, 0, 3, 4), []impl.Rect{rect(0, 0, 1, 4), rect(0, 0, 3, 1), rect(0, 3, 3, 4), rect(2, 0, 3, 4)}, rect(0, 0, 1, 4)},
		{"across a corner, upwards", dotsAt(1, 1, ".*", "*."), four, []impl.Rect{rect(0, 0, 1, 4), rect(0, 0, 4, 1), rect(0, 2, 2, 4), rect(0, 3, 4, 4), rect(2, 0, 4, 2), rect(3, 0, 4, 4)}, rect(0, 0, 1, 4)},
		{"across a corner, downwards", dotsAt(1, 1, "*.", ".*"), four, []impl.Rect{rect(0, 0, 1, 4), rect(0, 0, 2, 2), rect(0, 0, 4, 1), rect(0, 3, 4, 4), rect(2, 2, 4, 4), rect(3, 0, 4, 4)}, rect(0, 0, 1, 4)},
		{"with a gap of one in a row", dotsAt(1, 1, "*.*"), rect(0, 0, 5, 3), []impl.Rect{rect(0, 0, 1, 3), rect(0, 0, 5, 1), rect(0, 2, 5, 3), rect(2, 0, 3, 3), rect(4, 0, 5, 3)}, rect(0, 0, 5, 1)},
		{"in all corners", []impl.Dot{dot(0, 0), dot(0, 2), dot(3, 0), dot(3, 2)}, rect(0, 0, 4, 3), []impl.Rect{rect(0, 1, 4, 2), rect(1, 0, 3, 3)}, rect(1, 0, 3, 3)},
		{"in the field's corners", []impl.Dot{dot(0, 0), dot(0, 19), dot(19, 0), dot(19, 19)}, rect(0, 0, 20, 20), []impl.Rect{rect(0, 1, 20, 19), rect(1, 0, 19, 20)}, rect(0, 1, 20, 19)},
		{"in the middle of all sides", dotsAt(0, 0, ".*.", "*.*", ".*."), three, []impl.Rect{rect(0, 0, 1, 1), rect(0, 2, 1, 3), rect(1, 1, 2, 2), rect(2, 0, 3, 1), rect(2, 2, 3, 3)}, rect(0, 0, 1, 1)},
		{"along the left side", dotsAt(0, 0, "*", "*", "*"), three, []impl.Rect{rect(1, 0, 3, 3)}, rect(1, 0, 3, 3)},
		{"along the high side", dotsAt(0, 2, "***"), three, []impl.Rect{rect(0, 0, 3, 2)}, rect(0, 0, 3, 2)},
		{"along all sides", dotsAt(0, 0, "***", "*.*", "***"), three, []impl.Rect{rect(1, 1, 2, 2)}, rect(1, 1, 2, 2)},
		{"from side to side", dotsAt(2, 0, "*", "*", "*", "*"), rect(0, 0, 5, 4), []impl.Rect{rect(0, 0, 2, 4), rect(3, 0, 5, 4)}, rect(0, 0, 2, 4)},
		{"from side to side, the further half greater", dotsAt(2, 0, "*", "*", "*", "*"), rect(0, 0, 6, 4), []impl.Rect{rect(0, 0, 2, 4), rect(3, 0, 6, 4)}, rect(3, 0, 6, 4)},
		{"a cross", dotsAt(0, 0, "..*..", "..*..", "*****", "..*..", "..*.."), rect(0, 0, 5, 5), []impl.Rect{rect(0, 0, 2, 2), rect(0, 3, 2, 5), rect(3, 0, 5, 2), rect(3, 3, 5, 5)}, rect(0, 0, 2, 2)},
		{"stairs", dotsAt(0, 0, "***", "**.", "*.."), three, []impl.Rect{rect(1, 0, 3, 1), rect(2, 0, 3, 2)}, rect(1, 0, 3, 1)},
		{"stairs, from the other side", dotsAt(0, 0, "..*", ".**", "***"), three, []impl.Rect{rect(0, 1, 1, 3), rect(0, 2, 2, 3)}, rect(0, 1, 1, 3)},
		{"from corner to corner", dotsAt(0, 0, "..*", ".*.", "*.."), three, []impl.Rect{rect(0, 1, 1, 3), rect(0, 2, 2, 3), rect(1, 0, 3, 1), rect(2, 0, 3, 2)}, rect(0, 1, 1, 3)},
		{"two, and a third one between them", []impl.Dot{dot(1, 0), dot(3, 0), dot(5, 0)}, rect(0, 0, 7, 1), []impl.Rect{rect(0, 0, 1, 1), rect(2, 0, 3, 1), rect(4, 0, 5, 1), rect(6, 0, 7, 1)}, rect(0, 0, 1, 1)},
		{"the middle one of three is greatest", []impl.Dot{dot(1, 0), dot(5, 0)}, rect(0, 0, 8, 1), []impl.Rect{rect(0, 0, 1, 1), rect(2, 0, 5, 1), rect(6, 0, 8, 1)}, rect(2, 0, 5, 1)},
		{"the second and the third one are greatest", []impl.Dot{dot(1, 0), dot(4, 0)}, rect(0, 0, 7, 1), []impl.Rect{rect(0, 0, 1, 1), rect(2, 0, 4, 1), rect(5, 0, 7, 1)}, rect(2, 0, 4, 1)},
		{"twelve along the left side", dotsOf(rect(0, 0, 1, 12)), rect(0, 0, 20, 20), []impl.Rect{rect(0, 12, 20, 20), rect(1, 0, 20, 20)}, rect(1, 0, 20, 20)},
		{"twelve as a block in the middle", dotsOf(rect(8, 9, 12, 12)), rect(0, 0, 20, 20), []impl.Rect{rect(0, 0, 8, 20), rect(0, 0, 20, 9), rect(0, 12, 20, 20), rect(12, 0, 20, 20)}, rect(0, 0, 20, 9)},
	} {
		c.checkOver(t)
	}
}

func TestWidestOnAChessboard(t *testing.T) {
	for _, from := range []impl.Dot{dot(0, 0), dot(16, 14), dot(5, 9)} {
		dots := chessboard(from.X, from.Y)
		area := rect(from.X, from.Y, from.X+4, from.Y+6)
		var free []impl.Rect
		for _, d := range dotsOf(area) {
			if !slices.Contains(dots, d) {
				free = append(free, rect(d.X, d.Y, d.X+1, d.Y+1))
			}
		}
		if len(dots) != 12 || len(free) != 12 {
			t.Fatal(dots, free)
		}
		emptyCase{"each white cell", dots, area, free, free[0]}.checkOver(t)
	}
}

// All choices of dots in a small field, at both ends of the whole one, are compared pair by pair.
func TestWidestOfAllSmallFields(t *testing.T) {
	for _, area := range []impl.Rect{rect(0, 0, 3, 4), rect(16, 17, 20, 20), rect(5, 9, 8, 12), rect(2, 3, 12, 4), rect(7, 1, 8, 11)} {
		places := dotsOf(area)
		for choice := range 1 << len(places) {
			var dots []impl.Dot
			for i, d := range places {
				if choice>>i&1 == 1 {
					dots = append(dots, d)
				}
			}
			empty := emptyIn(dots, area)
			emptyCase{"all choices", dots, area, widestByPairs(empty), firstGreatest(empty)}.check(t)
			if t.Failed() {
				return
			}
		}
	}
}

func TestWidestOfSamples(t *testing.T) {
	many, none := 0, 0
	for _, dots := range sampleDots() {
		for _, area := range sampleAreas() {
			empty := emptyIn(dots, area)
			c := emptyCase{"sample", dots, area, widestByDots(dots, area, empty), firstGreatest(empty)}
			c.checkOver(t)
			if t.Failed() {
				return
			}
			if len(c.widest) > 20 {
				many++
			}
			if len(c.widest) == 0 {
				none++
			}
		}
	}
	if many < 20 || none < 20 {
		t.Error("too few samples with many, or with none:", many, none)
	}
}

func TestWidestAreInOrder(t *testing.T) {
	byLow, byRight := 0, 0
	for _, dots := range sampleDots() {
		list := impl.WidestOf(dots, rect(0, 0, 20, 20))
		for i, r := range list[1:] {
			before := list[i]
			if compareRects(before, r) >= 0 {
				t.Fatal(dots, before, r)
			}
			if before.Left == r.Left && before.Low < r.Low {
				byLow++
			}
			if before.Left == r.Left && before.Low == r.Low && before.Right < r.Right {
				byRight++
			}
		}
	}
	if byLow < 50 || byRight < 50 {
		t.Error("too few samples for the order:", byLow, byRight)
	}
}

func TestGreatestEmptyIsTheFirstOfThose(t *testing.T) {
	draw := drawing(83)
	later, equal := 0, 0
	for range 400 {
		width := 3 + draw.below(5)
		dots, area := draw.dots(1+draw.below(mostDots), width), rect(0, 0, width, width)
		list := impl.WidestOf(dots, area)
		want := firstGreatest(list)
		if got, ok := impl.GreatestEmpty(dots, area); got != want || ok != (len(list) > 0) {
			t.Fatal(dots, area, got, ok, "want", want)
		}
		same := 0
		for _, r := range list {
			if areaOf(r) == areaOf(want) {
				same++
			}
		}
		if same > 1 {
			equal++
		}
		if len(list) > 0 && list[0] != want {
			later++
		}
	}
	if later < 50 || equal < 50 {
		t.Error("too few samples:", later, equal)
	}
}

func TestWithDotPutsItInOrder(t *testing.T) {
	all := dotsOf(rect(0, 0, 20, 20))
	for _, dots := range sampleDots() {
		for _, a := range all {
			got, ok := impl.WithDot(dots, a)
			if want := len(dots) < mostDots && !slices.Contains(dots, a); ok != want {
				t.Fatal(dots, a, ok)
			}
			if ok && !slices.Equal(got, inOrder(append(slices.Clone(dots), a))) {
				t.Fatal(dots, a, got)
			}
			if !ok && got != nil {
				t.Fatal("something beside false:", dots, a, got)
			}
		}
	}
}

func TestWithDotExamples(t *testing.T) {
	some := []impl.Dot{dot(3, 4), dot(3, 8), dot(6, 2)}
	for _, c := range []struct {
		name string
		dots []impl.Dot
		a    impl.Dot
		want []impl.Dot // none if it is refused
	}{
		{"the first one", nil, dot(5, 5), []impl.Dot{dot(5, 5)}},
		{"the first one, behind none", []impl.Dot{}, dot(0, 0), []impl.Dot{dot(0, 0)}},
		{"before all, by X", some, dot(2, 19), []impl.Dot{dot(2, 19), dot(3, 4), dot(3, 8), dot(6, 2)}},
		{"before all, by Y", some, dot(3, 3), []impl.Dot{dot(3, 3), dot(3, 4), dot(3, 8), dot(6, 2)}},
		{"behind all, by X", some, dot(7, 0), []impl.Dot{dot(3, 4), dot(3, 8), dot(6, 2), dot(7, 0)}},
		{"behind all, by Y", some, dot(6, 3), []impl.Dot{dot(3, 4), dot(3, 8), dot(6, 2), dot(6, 3)}},
		{"between two with the same X", some, dot(3, 5), []impl.Dot{dot(3, 4), dot(3, 5), dot(3, 8), dot(6, 2)}},
		{"between two, by X", some, dot(4, 0), []impl.Dot{dot(3, 4), dot(3, 8), dot(4, 0), dot(6, 2)}},
		{"between two, with the X of the one before", some, dot(3, 19), []impl.Dot{dot(3, 4), dot(3, 8), dot(3, 19), dot(6, 2)}},
		{"between two, with the X of the one behind", some, dot(6, 1), []impl.Dot{dot(3, 4), dot(3, 8), dot(6, 1), dot(6, 2)}},
		{"the first cell", some, dot(0, 0), []impl.Dot{dot(0, 0), dot(3, 4), dot(3, 8), dot(6, 2)}},
		{"the last cell", some, dot(19, 19), []impl.Dot{dot(3, 4), dot(3, 8), dot(6, 2), dot(19, 19)}},
		{"the first one again", some, dot(3, 4), nil},
		{"the middle one again", some, dot(3, 8), nil},
		{"the last one again", some, dot(6, 2), nil},
		{"to the left of the field", some, dot(-1, 5), nil},
		{"below the field", some, dot(5, -1), nil},
		{"to the right of the field", some, dot(20, 5), nil},
		{"above the field", some, dot(5, 20), nil},
	} {
		if got, ok := impl.WithDot(c.dots, c.a); !slices.Equal(got, c.want) || ok != (c.want != nil) {
			t.Error(c.name, c.dots, c.a, got, ok)
		}
	}
}

func TestWithDotAtMaxDots(t *testing.T) {
	all := dotsOf(rect(4, 3, 17, 4))
	for i, d := range all {
		twelve := slices.Delete(slices.Clone(all), i, i+1)
		if got, ok := impl.WithDot(twelve, d); ok || got != nil {
			t.Error("one more than twelve:", twelve, d, got, ok)
		}
		for j, e := range twelve {
			eleven := slices.Delete(slices.Clone(twelve), j, j+1)
			if got, ok := impl.WithDot(eleven, e); !ok || !slices.Equal(got, twelve) {
				t.Error("the twelfth one:", eleven, e, got, ok)
			}
			if got, ok := impl.WithDot(twelve, e); ok || got != nil {
				t.Error("one of twelve again:", twelve, e, got, ok)
			}
		}
	}
}

func TestWithDotRefusesWhatIsNoDot(t *testing.T) {
	for _, dots := range [][]impl.Dot{nil, {}, {dot(0, 0)}, {dot(3, 4), dot(19, 19)}, dotsOf(rect(0, 0, 11, 1))} {
		for _, n := range oddNumbers() {
			if 0 <= n && n < field {
				continue
			}
			for _, a := range []impl.Dot{dot(n, 0), dot(0, n), dot(n, 19), dot(19, n), dot(n, n)} {
				if got, ok := impl.WithDot(dots, a); ok || got != nil {
					t.Error(dots, a, got, ok)
				}
			}
		}
	}
}

func TestInvalidDotsHaveFixedResults(t *testing.T) {
	for _, dots := range badDots() {
		for _, r := range append(sampleAreas(), rect(0, 19, 1, 20), impl.Rect{}) {
			if impl.EmptyOk(dots, r) {
				t.Error("empty", dots, r)
			}
			if got := impl.WidestOf(dots, r); got != nil {
				t.Error("widest", dots, r, got)
			}
			if got, ok := impl.GreatestEmpty(dots, r); ok || got != (impl.Rect{}) {
				t.Error("greatest", dots, r, got, ok)
			}
		}
		for _, a := range []impl.Dot{dot(0, 0), dot(19, 19), dot(9, 15), dot(-1, 0), dot(4, 5)} {
			if got, ok := impl.WithDot(dots, a); ok || got != nil {
				t.Error("with a dot", dots, a, got, ok)
			}
		}
	}
}

func TestInvalidFieldsHaveFixedResults(t *testing.T) {
	for _, r := range badRects() {
		for _, dots := range [][]impl.Dot{nil, {}, {dot(0, 0)}, {dot(19, 19)}, {dot(3, 4), dot(7, 7)}, dotsOf(rect(0, 0, 3, 4))} {
			if impl.EmptyOk(dots, r) {
				t.Error("empty", dots, r)
			}
			if got := impl.WidestOf(dots, r); got != nil {
				t.Error("widest", dots, r, got)
			}
			if got, ok := impl.GreatestEmpty(dots, r); ok || got != (impl.Rect{}) {
				t.Error("greatest", dots, r, got, ok)
			}
		}
	}
}

func TestEmptyPlacesLeaveTheirArgumentsAsTheyWere(t *testing.T) {
	for _, dots := range append(sampleDots(), badDots()...) {
		whole, part := guarded(dots)
		before := slices.Clone(whole)
		impl.DotsOk(part)
		impl.EmptyOk(part, rect(0, 0, 9, 9))
		impl.WidestOf(part, rect(0, 0, 9, 9))
		impl.GreatestEmpty(part, rect(0, 0, 9, 9))
		for _, a := range []impl.Dot{dot(0, 0), dot(4, 5), dot(9, 15), dot(19, 18), dot(20, 0)} {
			impl.WithDot(part, a)
		}
		if !slices.Equal(whole, before) {
			t.Fatal("written to:", before, whole)
		}
	}
}

func TestResultsOfEmptyPlacesAreNewMemory(t *testing.T) {
	for _, dots := range sampleDots() {
		whole, part := guarded(dots)
		before := slices.Clone(whole)
		for _, a := range []impl.Dot{dot(0, 0), dot(4, 5), dot(9, 15), dot(19, 18)} {
			first, ok := impl.WithDot(part, a)
			second, _ := impl.WithDot(part, a)
			kept := slices.Clone(second)
			fill(first, dot(13, 14))
			if ok && (!slices.Equal(whole, before) || !slices.Equal(second, kept)) {
				t.Fatal("shared:", dots, a)
			}
		}
		widest, again := impl.WidestOf(part, rect(0, 0, 9, 9)), impl.WidestOf(part, rect(0, 0, 9, 9))
		kept := slices.Clone(again)
		fill(widest, rect(11, 12, 13, 14))
		if !slices.Equal(again, kept) || !slices.Equal(whole, before) {
			t.Fatal("shared widest:", dots)
		}
	}
}
