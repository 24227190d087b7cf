package tests

import (
	"slices"
	"testing"

	"loop.example/laidrectangles/impl"
)

func TestPromise17AFurtherRectangleMakesItLongerByAtMostItsOwn(t *testing.T) {
	draw := drawing(17)
	for _, list := range outlineLists() {
		outline := impl.OutlineOf(list)
		if outline < 0 || outline%2 != 0 {
			t.Fatal("not even:", list, outline)
		}
		for _, r := range append(draw.bars(4, 6), draw.rect(6), draw.rect(20), rect(0, 0, 20, 20)) {
			longer, ok := impl.WithOne(list, r)
			if ok != (len(list) < laid) {
				t.Fatal(list, r, ok)
			}
			if with, own := impl.OutlineOf(longer), impl.OutlineOf([]impl.Rect{r}); ok && with > outline+own {
				t.Fatal("with a further one:", list, r, outline, own, with)
			}
		}
	}
}

func TestPromise17OneRectangleHasTwiceItsWidthAndHeight(t *testing.T) {
	for _, r := range allRects() {
		if got, want := impl.OutlineOf([]impl.Rect{r}), 2*(r.Right-r.Left+r.High-r.Low); got != want {
			t.Fatal(r, got, "want", want)
		}
	}
}

func TestPromise18CornersTellPiecesAndHoles(t *testing.T) {
	for _, list := range outlineLists() {
		out, in, ok := impl.CornersOf(list)
		if !ok || out < 0 || in < 0 || out-in != 4*(impl.PiecesOf(list)-impl.HolesOf(list)) {
			t.Fatal(list, out, in, ok, impl.PiecesOf(list), impl.HolesOf(list))
		}
		if both := out + in; both%2 != 0 || both > impl.OutlineOf(list) {
			t.Fatal(list, out, in, impl.OutlineOf(list))
		}
	}
}

func TestPromise19PiecesAreNoMoreThanRectangles(t *testing.T) {
	for _, r := range sampleRects() {
		if got := impl.PiecesOf([]impl.Rect{r}); got != 1 {
			t.Fatal(r, got)
		}
	}
	for _, list := range outlineLists() {
		pieces := impl.PiecesOf(list)
		if pieces > len(list) || (pieces < 1) != (len(list) == 0) {
			t.Fatal(list, pieces)
		}
		if len(list) == 0 {
			continue
		}
		if without := impl.PiecesOf(list[:len(list)-1]); pieces > without+1 {
			t.Fatal("without the last one:", list, without, pieces)
		}
	}
}

func TestPromise20FewRectanglesHaveNoHoles(t *testing.T) {
	for _, list := range outlineLists() {
		for count := range min(len(list), 3) + 1 {
			if got := impl.HolesOf(list[:count]); got != 0 {
				t.Fatal(list[:count], got)
			}
		}
	}
	for _, sides := range [][]int{{0, 1, 2, 3}, {0, 1, 19, 20}, {4, 7, 8, 20}} {
		rects := rectsOn(sides...)
		for i, r := range rects {
			for j, s := range rects[i:] {
				for _, u := range rects[i+j:] {
					if got := impl.HolesOf([]impl.Rect{r, s, u}); got != 0 {
						t.Fatal(r, s, u, got)
					}
				}
			}
		}
	}
}

// What is told of an outline does not depend on the order, on where the rectangles lie together, or on which sides are up.
func TestOutlinesAreTheSameReversedMovedAndTurnedOver(t *testing.T) {
	for _, list := range outlineLists() {
		c := outlineCase{outline: impl.OutlineOf(list), pieces: impl.PiecesOf(list), holes: impl.HolesOf(list)}
		c.out, c.in, _ = impl.CornersOf(list)
		c.name, c.list = "reversed", slices.Clone(list)
		slices.Reverse(c.list)
		c.check(t)
		for i, r := range list {
			c.list[i] = impl.OverOf(r)
		}
		c.name = "turned over"
		c.check(t)
		for _, step := range [][2]int{{1, 0}, {0, 1}, {-1, 0}, {0, -1}, {14, 14}, {17, 3}} {
			if moved, ok := movedList(list, step[0], step[1]); ok {
				c.name, c.list = "moved", moved
				c.check(t)
			}
		}
	}
}
