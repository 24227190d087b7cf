package tests

import (
	"slices"
	"testing"

	"loop.example/laidrectangles/impl"
)

func TestPromise13AFurtherRectangleMakesItsCellsDeeper(t *testing.T) {
	for _, list := range sampleLists() {
		for y := range field {
			for x := range field {
				depth := impl.DepthAt(list, x, y)
				if depth < 0 || depth > len(list) {
					t.Fatal(list, x, y, depth)
				}
				longer, ok := impl.WithOne(list, rect(x, y, x+1, y+1))
				if ok != (len(list) < laid) {
					t.Fatal(list, x, y, ok)
				}
				if more := impl.DepthAt(longer, x, y); ok && more != depth+1 {
					t.Fatal("with its own cell:", list, x, y, depth, more)
				}
			}
		}
	}
}

func TestAFurtherRectangleMakesJustItsOwnCellsDeeper(t *testing.T) {
	draw := drawing(13)
	for _, list := range sampleLists() {
		r := draw.rect(20)
		longer, ok := impl.WithOne(list, r)
		if !ok {
			continue
		}
		for y, row := range cellsOf(r) {
			for x, has := range row {
				more := impl.DepthAt(longer, x, y) - impl.DepthAt(list, x, y)
				if has && more != 1 || !has && more != 0 {
					t.Fatal(list, r, x, y, more)
				}
			}
		}
	}
}

func TestPromise14DepthsAddUpToAreas(t *testing.T) {
	for _, list := range sampleLists() {
		counts := impl.DepthsOf(list)
		if len(counts) != len(list)+1 {
			t.Fatal(list, counts)
		}
		cells, weighed := 0, 0
		for depth, count := range counts {
			cells += count
			weighed += depth * count
		}
		if cells != impl.MaxSide*impl.MaxSide || cells-counts[0] != impl.UnionArea(list) || weighed != areasOf(list) {
			t.Fatal(list, counts)
		}
	}
}

func TestPromise15TheDeepestCellIsUnderAsMany(t *testing.T) {
	for _, list := range sampleLists() {
		depth, x, y, ok := impl.DeepestOf(list)
		if !ok || impl.DepthAt(list, x, y) != depth || (depth == 0) != (len(list) == 0) {
			t.Fatal(list, depth, x, y, ok)
		}
		for _, r := range list {
			for _, s := range list {
				if other := impl.DepthAt(list, r.Left, s.Low); other > depth {
					t.Fatal("at two sides:", list, r, s, other)
				}
			}
		}
		for high := range field {
			for right := range field {
				other := impl.DepthAt(list, right, high)
				ahead := high < y || high == y && right < x
				if other > depth || ahead && other == depth {
					t.Fatal("not the first of the greatest:", list, depth, x, y, right, high)
				}
			}
		}
	}
}

func TestPromise16SumsOfWhatIsAsDeepAreAllAreas(t *testing.T) {
	for _, list := range sampleLists() {
		together := 0
		for depth := 1; depth <= len(list); depth++ {
			together += impl.AtLeast(list, depth)
		}
		if together != areasOf(list) || impl.AtLeast(list, 1) != impl.UnionArea(list) {
			t.Fatal(list, together)
		}
		for depth := range laid + 3 {
			if one, more := impl.AtLeast(list, depth), impl.AtLeast(list, depth+1); more < 0 || more > one {
				t.Fatal("for one more:", list, depth, one, more)
			}
		}
	}
}

func TestDepthsAreTheSameInAnyOrder(t *testing.T) {
	for _, list := range sampleLists() {
		turned := slices.Clone(list)
		slices.Reverse(turned)
		d, x, y, _ := impl.DeepestOf(list)
		if e, v, w, _ := impl.DeepestOf(turned); d != e || x != v || y != w {
			t.Fatal(list, d, x, y, e, v, w)
		}
	}
}

func TestRectanglesThatAreMovedTogetherKeepAllDepths(t *testing.T) {
	for _, list := range sampleLists() {
		for _, step := range [][2]int{{1, 0}, {0, 1}, {-1, 0}, {3, 8}, {-2, 5}} {
			moved, ok := movedList(list, step[0], step[1])
			if !ok {
				continue
			}
			if got, want := impl.DepthsOf(moved), impl.DepthsOf(list); !slices.Equal(got, want) {
				t.Fatal(list, step, got, "want", want)
			}
			d, x, y, _ := impl.DeepestOf(list)
			e, v, w, _ := impl.DeepestOf(moved)
			if len(list) > 0 && (e != d || v != x+step[0] || w != y+step[1]) {
				t.Fatal(list, step, e, v, w)
			}
		}
	}
}

func movedList(list []impl.Rect, x, y int) ([]impl.Rect, bool) {
	var out []impl.Rect
	for _, r := range list {
		m, ok := impl.MovedBy(r, x, y)
		if !ok {
			return nil, false
		}
		out = append(out, m)
	}
	return out, true
}
