package tests

import (
	"slices"
	"testing"

	"loop.example/laidrectangles/impl"
)

func TestPromise33NoDotsAreDots(t *testing.T) {
	if !impl.DotsOk(nil) || !impl.DotsOk([]impl.Dot{}) || !impl.DotsOk([]impl.Dot{dot(0, 0)}) {
		t.Fatal("none, or the one at 0, 0")
	}
	for _, dots := range sampleDots() {
		for count := range len(dots) + 1 {
			if !impl.DotsOk(dots[:count]) {
				t.Fatal("without the last ones:", dots, count)
			}
		}
	}
}

func TestPromise34WithinAnEmptyOneAllAreEmpty(t *testing.T) {
	draw := drawing(34)
	parts := 0
	for _, dots := range sampleDots() {
		for range 300 {
			r, s := draw.rect(20), draw.rect(20)
			common, ok := impl.CommonOf(r, s)
			if !ok || !impl.EmptyOk(dots, r) {
				continue
			}
			if !impl.EmptyOk(dots, common) {
				t.Fatal(dots, r, s, common)
			}
			if common != r && len(dots) > 0 {
				parts++
			}
		}
	}
	if parts < 1000 {
		t.Error("too few samples within empty ones:", parts)
	}
}

func TestPromise34WithoutDotsAllAreEmpty(t *testing.T) {
	for _, r := range allRects() {
		if !impl.EmptyOk(nil, r) || !impl.EmptyOk([]impl.Dot{}, r) {
			t.Fatal(r)
		}
	}
}

func TestPromise35EachEmptyOneIsWithinAWidestOne(t *testing.T) {
	further := 0
	for _, dots := range sampleDots() {
		for _, area := range sampleAreas() {
			widest := impl.WidestOf(dots, area)
			for i, r := range widest {
				if !impl.EmptyOk(dots, r) || !impl.WithinOk(r, area) {
					t.Fatal("empty, and within the field:", dots, area, r)
				}
				for j, s := range widest {
					if i != j && impl.WithinOk(r, s) {
						t.Fatal("within another one:", dots, area, r, s)
					}
				}
			}
			for _, r := range emptyIn(dots, area) {
				if !slices.ContainsFunc(widest, func(s impl.Rect) bool { return impl.WithinOk(r, s) }) {
					t.Fatal("within none of them:", dots, area, r, widest)
				}
				if !slices.Contains(widest, r) {
					further++
				}
			}
		}
	}
	if further < 10000 {
		t.Error("too few further empty ones:", further)
	}
}

func TestPromise36NoEmptyOneIsGreater(t *testing.T) {
	draw := drawing(36)
	less := 0
	for _, dots := range sampleDots() {
		for _, area := range sampleAreas() {
			greatest, ok := impl.GreatestEmpty(dots, area)
			empty := emptyIn(dots, area)
			if ok != (len(empty) > 0) || ok && (!impl.EmptyOk(dots, greatest) || !impl.WithinOk(greatest, area)) {
				t.Fatal("empty, and within the field:", dots, area, greatest, ok)
			}
			for _, r := range empty {
				if impl.AreaOf(r) > impl.AreaOf(greatest) {
					t.Fatal("greater:", dots, area, greatest, r)
				}
			}
			a := dot(area.Left+draw.below(area.Right-area.Left), area.Low+draw.below(area.High-area.Low))
			with, may := impl.WithDot(dots, a)
			if !may {
				continue
			}
			then, _ := impl.GreatestEmpty(with, area)
			if areaOf(then) > areaOf(greatest) {
				t.Fatal("with a further dot:", dots, a, area, greatest, then)
			}
			if areaOf(then) < areaOf(greatest) {
				less++
			}
		}
	}
	if less < 100 {
		t.Error("too few samples that a further dot makes less:", less)
	}
}

func TestPromise37AFurtherDotIsThere(t *testing.T) {
	for _, dots := range sampleDots() {
		for _, a := range dotsOf(rect(0, 0, 20, 20)) {
			with, ok := impl.WithDot(dots, a)
			if !ok {
				continue
			}
			if len(with) != len(dots)+1 || !impl.DotsOk(with) || !slices.Contains(with, a) {
				t.Fatal("one more, in order:", dots, a, with)
			}
			cell := rect(a.X, a.Y, a.X+1, a.Y+1)
			if impl.EmptyOk(with, cell) || !impl.EmptyOk(dots, cell) {
				t.Fatal("its cell:", dots, a, with)
			}
			for _, d := range dots {
				if !slices.Contains(with, d) {
					t.Fatal("one is gone:", dots, a, with, d)
				}
			}
		}
	}
}

// What is told does not depend on where dots and field lie together.
func TestWidestAreTheSameMoved(t *testing.T) {
	for _, dots := range sampleDots() {
		var near []impl.Dot
		for _, d := range dots {
			if d.X < 9 && d.Y < 9 {
				near = append(near, d)
			}
		}
		area := rect(0, 0, 9, 9)
		widest := impl.WidestOf(near, area)
		for _, step := range [][2]int{{1, 0}, {0, 1}, {11, 11}, {4, 9}} {
			c := emptyCase{name: "moved", area: rect(step[0], step[1], 9+step[0], 9+step[1])}
			for _, d := range near {
				c.dots = append(c.dots, dot(d.X+step[0], d.Y+step[1]))
			}
			c.widest, _ = movedList(widest, step[0], step[1])
			c.greatest = firstGreatest(c.widest)
			c.check(t)
		}
	}
}
