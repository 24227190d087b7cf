package tests

import (
	"testing"

	"loop.example/laidrectangles/impl"
)

func TestPromise1OneCellIsARectangle(t *testing.T) {
	if !impl.RectOk(rect(0, 0, 1, 1)) {
		t.Fatal("the one from 0 to 1 both ways")
	}
	for _, r := range allRects() {
		if !impl.RectOk(r) {
			t.Fatal("not a rectangle:", r)
		}
	}
	numbers := oddNumbers()
	for _, left := range numbers {
		for _, right := range numbers {
			for _, side := range [][2]int{{0, 1}, {0, 20}, {19, 20}, {0, 21}, {-1, 1}, {3, 3}, {4, 3}} {
				level, upright := rect(left, side[0], right, side[1]), rect(side[0], left, side[1], right)
				if impl.RectOk(level) != impl.RectOk(upright) {
					t.Fatal(level, upright)
				}
			}
		}
	}
}

func TestPromise2AreasAreAtLeastOne(t *testing.T) {
	for _, r := range allRects() {
		area := impl.AreaOf(r)
		if area < 1 || area > impl.MaxSide*impl.MaxSide || impl.AreaOf(impl.OverOf(r)) != area {
			t.Fatal(r, area)
		}
		for _, step := range [][2]int{{1, 0}, {0, 1}, {-1, -1}, {-r.Left, -r.Low}, {20 - r.Right, 20 - r.High}} {
			if m, ok := impl.MovedBy(r, step[0], step[1]); ok && impl.AreaOf(m) != area {
				t.Fatal(r, step, m)
			}
		}
	}
}

func TestPromise3WhatIsCommonIsWithinBoth(t *testing.T) {
	all := sampleRects()
	for _, r := range all {
		for _, s := range all {
			c, ok := impl.CommonOf(r, s)
			if d, also := impl.CommonOf(s, r); d != c || also != ok {
				t.Fatal("exchanged:", r, s, c, d)
			}
			if ok && !(impl.WithinOk(c, r) && impl.WithinOk(c, s)) {
				t.Fatal("not within both:", r, s, c)
			}
			for _, further := range all {
				both := impl.WithinOk(further, r) && impl.WithinOk(further, s)
				if both != (ok && impl.WithinOk(further, c)) {
					t.Fatal(r, s, c, ok, further)
				}
			}
		}
	}
}

func TestPromise4AroundIsLeast(t *testing.T) {
	all := sampleRects()
	for _, r := range all {
		for _, s := range all {
			a, ok := impl.AroundOf(r, s)
			if !ok || !impl.WithinOk(r, a) || !impl.WithinOk(s, a) {
				t.Fatal("both are not within:", r, s, a, ok)
			}
			if b, also := impl.AroundOf(s, r); b != a || !also {
				t.Fatal("exchanged:", r, s, a, b)
			}
			shared := 0
			if c, meet := impl.CommonOf(r, s); meet {
				shared = impl.AreaOf(c)
			}
			if impl.AreaOf(a) < impl.AreaOf(r)+impl.AreaOf(s)-shared {
				t.Fatal("less than both areas:", r, s, a)
			}
			for _, further := range all {
				both := impl.WithinOk(r, further) && impl.WithinOk(s, further)
				if both != impl.WithinOk(a, further) {
					t.Fatal(r, s, a, further)
				}
			}
		}
	}
}

func TestPromise5RectanglesWithinOthersAreInOrder(t *testing.T) {
	all := sampleRects()
	for _, r := range all {
		if !impl.WithinOk(r, r) {
			t.Fatal("not within itself:", r)
		}
		for _, s := range all {
			within := impl.WithinOk(r, s)
			if within && impl.WithinOk(s, r) && r != s {
				t.Fatal("both ways:", r, s)
			}
			c, ok := impl.CommonOf(r, s)
			if within != (ok && c == r) {
				t.Fatal(r, s, c, ok)
			}
			if !within {
				continue
			}
			for _, further := range all {
				if impl.WithinOk(s, further) && !impl.WithinOk(r, further) {
					t.Fatal("not in order:", r, s, further)
				}
			}
		}
	}
}

func TestPromise6WhatIsMovedIsMovedBack(t *testing.T) {
	for _, r := range sampleRects() {
		for x := -field - 2; x <= field+2; x++ {
			for y := -field - 2; y <= field+2; y++ {
				m, ok := impl.MovedBy(r, x, y)
				if back, again := impl.MovedBy(m, -x, -y); ok && (back != r || !again) {
					t.Fatal("moved back:", r, x, y, m, back)
				}
				first, may := impl.MovedBy(r, x, 0)
				if !may {
					continue
				}
				if second, also := impl.MovedBy(first, 0, y); second != m || also != ok {
					t.Fatal("in two steps:", r, x, y, m, second)
				}
			}
		}
	}
	if m, ok := impl.MovedBy(rect(3, 4, 5, 9), 0, 0); !ok || m != rect(3, 4, 5, 9) {
		t.Fatal("not moved at all:", m, ok)
	}
}

func TestPromise7TurnedOverTwiceItIsAsBefore(t *testing.T) {
	for _, r := range allRects() {
		over := impl.OverOf(r)
		if !impl.RectOk(over) || impl.OverOf(over) != r {
			t.Fatal(r, over)
		}
		// Turning over is about the line on which both numbers are equal, so one cell up is one cell to the right.
		if over.Right-over.Left != r.High-r.Low || over.Left != r.Low {
			t.Fatal("not about that line:", r, over)
		}
	}
}
