package tests

import (
	"testing"

	"loop.example/laidrectangles/impl"
)

func TestMaxSideIsTwenty(t *testing.T) {
	if impl.MaxSide != 20 {
		t.Fatal(impl.MaxSide)
	}
}

func TestRectOkAtEachBound(t *testing.T) {
	for _, r := range []impl.Rect{
		rect(0, 0, 1, 1), rect(19, 19, 20, 20), rect(0, 0, 20, 20), rect(0, 19, 1, 20), rect(19, 0, 20, 1),
		rect(0, 5, 20, 6), rect(5, 0, 6, 20), rect(3, 4, 5, 9),
	} {
		if !impl.RectOk(r) {
			t.Error("not a rectangle:", r)
		}
	}
	for _, r := range badRects() {
		if impl.RectOk(r) {
			t.Error("a rectangle:", r)
		}
	}
}

func TestRectOkOfAnyNumbers(t *testing.T) {
	numbers := oddNumbers()
	for _, left := range numbers {
		for _, right := range numbers {
			for _, low := range numbers {
				for _, high := range numbers {
					r := rect(left, low, right, high)
					want := left >= 0 && right <= 20 && left < right && low >= 0 && high <= 20 && low < high
					if impl.RectOk(r) != want {
						t.Fatal(r, "want", want)
					}
				}
			}
		}
	}
}

func TestAreaOfCountsCells(t *testing.T) {
	for _, r := range sampleRects() {
		if got, want := impl.AreaOf(r), cellsOf(r).count(); got != want {
			t.Fatal(r, got, "want", want)
		}
	}
	for _, c := range []struct {
		r    impl.Rect
		want int
	}{
		{rect(0, 0, 4, 3), 12}, {rect(2, 1, 6, 5), 16}, {rect(7, 7, 8, 8), 1},
		{rect(0, 0, 20, 20), 400}, {rect(0, 19, 20, 20), 20}, {rect(19, 0, 20, 20), 20},
	} {
		if got := impl.AreaOf(c.r); got != c.want {
			t.Error(c.r, got, "want", c.want)
		}
	}
}

func TestCommonOfExamples(t *testing.T) {
	one := rect(0, 0, 4, 3)
	for _, c := range []struct {
		s, want impl.Rect
		ok      bool
	}{
		{rect(2, 1, 6, 5), rect(2, 1, 4, 3), true},
		{one, one, true},
		{rect(1, 1, 2, 2), rect(1, 1, 2, 2), true},
		{rect(0, 0, 20, 20), one, true},
		{rect(3, 2, 4, 3), rect(3, 2, 4, 3), true},
		{rect(3, 2, 9, 9), rect(3, 2, 4, 3), true},
		{rect(4, 0, 5, 1), impl.Rect{}, false},   // touches on the right
		{rect(0, 3, 4, 6), impl.Rect{}, false},   // touches above
		{rect(4, 3, 5, 4), impl.Rect{}, false},   // touches at a corner
		{rect(9, 9, 10, 10), impl.Rect{}, false}, // is away both ways
		{rect(9, 1, 10, 2), impl.Rect{}, false},  // is away to the right alone
		{rect(1, 9, 2, 10), impl.Rect{}, false},  // is away upwards alone
	} {
		if got, ok := impl.CommonOf(one, c.s); got != c.want || ok != c.ok {
			t.Error(c.s, got, ok)
		}
		if got, ok := impl.CommonOf(c.s, one); got != c.want || ok != c.ok {
			t.Error("exchanged", c.s, got, ok)
		}
	}
}

func TestCommonOfHasTheSharedCells(t *testing.T) {
	all := sampleRects()
	for _, r := range all {
		for _, s := range all {
			shared := cellsOf(r).and(cellsOf(s))
			c, ok := impl.CommonOf(r, s)
			if ok != (shared.count() > 0) {
				t.Fatal(r, s, ok)
			}
			if ok && (!impl.RectOk(c) || cellsOf(c) != shared) {
				t.Fatal(r, s, c)
			}
			if !ok && c != (impl.Rect{}) {
				t.Fatal("something beside false:", r, s, c)
			}
		}
	}
}

func TestAroundOfExamples(t *testing.T) {
	for _, c := range []struct{ r, s, want impl.Rect }{
		{rect(0, 0, 4, 3), rect(2, 1, 6, 5), rect(0, 0, 6, 5)},
		{rect(0, 0, 1, 1), rect(19, 19, 20, 20), rect(0, 0, 20, 20)},
		{rect(0, 19, 1, 20), rect(19, 0, 20, 1), rect(0, 0, 20, 20)},
		{rect(3, 3, 4, 4), rect(3, 3, 4, 4), rect(3, 3, 4, 4)},
		{rect(1, 8, 2, 9), rect(5, 3, 7, 4), rect(1, 3, 7, 9)},
		{rect(2, 2, 9, 9), rect(4, 4, 5, 5), rect(2, 2, 9, 9)},
		{rect(4, 4, 5, 5), rect(5, 4, 6, 5), rect(4, 4, 6, 5)},
	} {
		if got, ok := impl.AroundOf(c.r, c.s); !ok || got != c.want {
			t.Error(c.r, c.s, got, ok)
		}
	}
}

func TestWithinOkIsNoCellOutside(t *testing.T) {
	all := sampleRects()
	for _, r := range all {
		for _, s := range all {
			want := cellsOf(r).and(cellsOf(s)) == cellsOf(r)
			if impl.WithinOk(r, s) != want {
				t.Fatal(r, s, "want", want)
			}
		}
	}
}

func TestWithinOkTellsEachSide(t *testing.T) {
	s := rect(5, 6, 9, 10)
	for _, r := range []impl.Rect{s, rect(6, 7, 8, 9), rect(5, 6, 6, 7), rect(8, 9, 9, 10)} {
		if !impl.WithinOk(r, s) {
			t.Error("not within:", r)
		}
	}
	for _, r := range []impl.Rect{
		rect(4, 6, 9, 10), rect(5, 5, 9, 10), rect(5, 6, 10, 10), rect(5, 6, 9, 11),
		rect(9, 6, 10, 10), rect(5, 10, 9, 11), rect(0, 0, 20, 20),
	} {
		if impl.WithinOk(r, s) {
			t.Error("within:", r)
		}
	}
}

func TestMovedByInTheFieldAndOut(t *testing.T) {
	for _, r := range sampleRects() {
		for x := -field - 2; x <= field+2; x++ {
			for y := -field - 2; y <= field+2; y++ {
				want := rect(r.Left+x, r.Low+y, r.Right+x, r.High+y)
				in := want.Left >= 0 && want.Low >= 0 && want.Right <= 20 && want.High <= 20
				if !in {
					want = impl.Rect{}
				}
				if got, ok := impl.MovedBy(r, x, y); got != want || ok != in {
					t.Fatal(r, x, y, got, ok)
				}
			}
		}
	}
}

func TestMovedByMoreThanMaxSide(t *testing.T) {
	for _, r := range sampleRects() {
		for _, n := range oddNumbers() {
			if -20 <= n && n <= 20 {
				continue
			}
			for _, step := range [][2]int{{n, 0}, {0, n}, {n, n}, {n, -n}, {-n, n}} {
				if got, ok := impl.MovedBy(r, step[0], step[1]); ok || got != (impl.Rect{}) {
					t.Fatal(r, step, got, ok)
				}
			}
		}
	}
}

func TestMovedByFromBoundToBound(t *testing.T) {
	lowest, highest := rect(0, 0, 1, 1), rect(19, 19, 20, 20)
	if got, ok := impl.MovedBy(lowest, 19, 19); !ok || got != highest {
		t.Error(got, ok)
	}
	if got, ok := impl.MovedBy(highest, -19, -19); !ok || got != lowest {
		t.Error(got, ok)
	}
	for _, r := range []impl.Rect{lowest, highest} {
		for _, step := range [][2]int{{20, 0}, {-20, 0}, {0, 20}, {0, -20}} {
			if got, ok := impl.MovedBy(r, step[0], step[1]); ok || got != (impl.Rect{}) {
				t.Error(r, step, got, ok)
			}
		}
	}
}

func TestOverOfExchangesSides(t *testing.T) {
	for _, c := range []struct{ r, want impl.Rect }{
		{rect(0, 0, 4, 3), rect(0, 0, 3, 4)},
		{rect(2, 1, 6, 5), rect(1, 2, 5, 6)},
		{rect(0, 19, 20, 20), rect(19, 0, 20, 20)},
		{rect(7, 7, 8, 8), rect(7, 7, 8, 8)},
		{rect(0, 5, 1, 7), rect(5, 0, 7, 1)},
	} {
		if got := impl.OverOf(c.r); got != c.want {
			t.Error(c.r, got)
		}
	}
}

func TestInvalidRectanglesHaveFixedResults(t *testing.T) {
	none := impl.Rect{}
	for _, bad := range badRects() {
		if got := impl.AreaOf(bad); got != -1 {
			t.Error("area", bad, got)
		}
		if got := impl.OverOf(bad); got != none {
			t.Error("over", bad, got)
		}
		for _, step := range [][2]int{{0, 0}, {1, 0}, {0, 1}, {1, 1}, {-1, -1}, {20, 20}, {-20, -20}} {
			if got, ok := impl.MovedBy(bad, step[0], step[1]); ok || got != none {
				t.Error("moved", bad, step, got, ok)
			}
		}
	}
}

func TestInvalidPairsHaveFixedResults(t *testing.T) {
	none := impl.Rect{}
	bads := badRects()
	var pairs [][2]impl.Rect
	for _, bad := range bads {
		for _, r := range []impl.Rect{rect(0, 0, 1, 1), rect(2, 1, 6, 5), rect(0, 0, 20, 20), rect(19, 19, 20, 20)} {
			pairs = append(pairs, [2]impl.Rect{bad, r}, [2]impl.Rect{r, bad})
		}
		for _, other := range bads {
			pairs = append(pairs, [2]impl.Rect{bad, other})
		}
	}
	for _, p := range pairs {
		if got, ok := impl.CommonOf(p[0], p[1]); ok || got != none {
			t.Error("common", p, got, ok)
		}
		if got, ok := impl.AroundOf(p[0], p[1]); ok || got != none {
			t.Error("around", p, got, ok)
		}
		if impl.WithinOk(p[0], p[1]) {
			t.Error("within", p)
		}
	}
}
