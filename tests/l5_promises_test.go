package tests

import (
	"slices"
	"testing"

	"loop.example/laidrectangles/impl"
)

func TestPromise21RectanglesThatTouchDoNotMeet(t *testing.T) {
	rects := sampleRects()
	for _, r := range rects {
		for _, s := range rects {
			holds := impl.MeetOk(r, s)
			if impl.MeetOk(s, r) != holds {
				t.Fatal("the other way:", r, s, holds)
			}
			both := impl.DepthAt([]impl.Rect{r, s}, max(r.Left, s.Left), max(r.Low, s.Low)) == 2
			if both != holds {
				t.Fatal("the cell at both greater sides:", r, s, holds, both)
			}
			apart := r.Right <= s.Left || s.Right <= r.Left || r.High <= s.Low || s.High <= r.Low
			if holds == apart {
				t.Fatal("apart or touching:", r, s, holds)
			}
		}
	}
	for _, r := range allRects() {
		if !impl.MeetOk(r, r) {
			t.Fatal("itself:", r)
		}
	}
}

func TestPromise22IfEachTwoMeetAllDo(t *testing.T) {
	meeting := 0
	for _, list := range piercingLists() {
		holds := impl.AllMeetOk(list)
		pairs := true
		for i, r := range list {
			for _, s := range list[i+1:] {
				pairs = pairs && impl.MeetOk(r, s)
			}
		}
		if holds != pairs {
			t.Fatal("each two:", list, holds, pairs)
		}
		if len(list) == 0 {
			continue
		}
		if _, ok := impl.AllCommon(list); ok != holds {
			t.Fatal("something in common:", list, holds, ok)
		}
		if pierce := impl.PierceOf(list); (pierce == 1) != holds {
			t.Fatal("one cell:", list, holds, pierce)
		}
		if holds && len(list) > 2 {
			meeting++
		}
	}
	if meeting < 50 {
		t.Error("too few samples that all meet:", meeting)
	}
}

func TestPromise23AsManyCellsAsRectanglesThatAreApartAtLeast(t *testing.T) {
	draw := drawing(23)
	for _, list := range piercingLists() {
		pierce := impl.PierceOf(list)
		if apart := impl.ApartOf(list); pierce < apart || pierce > len(list) {
			t.Fatal(list, pierce, apart)
		}
		for _, r := range append(draw.bars(4, 6), draw.rect(6), draw.rect(20), rect(0, 0, 20, 20), rect(19, 19, 20, 20)) {
			longer, ok := impl.WithOne(list, r)
			if ok != (len(list) < laid) {
				t.Fatal(list, r, ok)
			}
			if with := impl.PierceOf(longer); ok && (with < pierce || with > pierce+1) {
				t.Fatal("with a further one:", list, r, pierce, with)
			}
		}
	}
}

func TestPromise23WithTheSameLowAndHighSidesAsManyAsAreApart(t *testing.T) {
	seen := map[int]bool{}
	for _, list := range piercingLists() {
		if len(list) == 0 {
			continue
		}
		same := withSameRows(list)
		pierce, apart := impl.PierceOf(same), impl.ApartOf(same)
		if pierce != apart {
			t.Fatal(same, pierce, apart)
		}
		seen[pierce] = true
	}
	for want := 1; want <= laid; want++ {
		if !seen[want] {
			t.Error("no sample needs so many:", want)
		}
	}
}

func TestPromise24FewAreApartIfManyMeet(t *testing.T) {
	for _, list := range piercingLists() {
		apart := impl.ApartOf(list)
		if want := len(list) > 0 && impl.AllMeetOk(list); (apart == 1) != want {
			t.Fatal("one:", list, apart, want)
		}
		if pieces := impl.PiecesOf(list); apart < pieces {
			t.Fatal("pieces:", list, apart, pieces)
		}
		if over := impl.ApartOf(turnedOver(list)); over != apart {
			t.Fatal("turned over:", list, apart, over)
		}
	}
}

// What is told of meetings does not depend on the order, on where the rectangles lie together, or on which sides are up.
func TestPiercingIsTheSameReversedMovedAndTurnedOver(t *testing.T) {
	for _, list := range piercingLists() {
		c := piercingCase{allMeet: impl.AllMeetOk(list), pierce: impl.PierceOf(list), apart: impl.ApartOf(list)}
		c.name, c.list = "reversed", slices.Clone(list)
		slices.Reverse(c.list)
		c.check(t)
		c.name, c.list = "turned over", turnedOver(list)
		c.check(t)
		for _, step := range [][2]int{{1, 0}, {0, 1}, {-1, 0}, {0, -1}, {14, 14}, {17, 3}} {
			if moved, ok := movedList(list, step[0], step[1]); ok {
				c.name, c.list = "moved", moved
				c.check(t)
			}
		}
	}
}
