package tests

import (
	"slices"
	"testing"

	"loop.example/laidrectangles/impl"
)

func TestMaxLaidIsSeven(t *testing.T) {
	if impl.MaxLaid != 7 {
		t.Fatal(impl.MaxLaid)
	}
}

func TestLaidOk(t *testing.T) {
	for _, list := range sampleLists() {
		if !impl.LaidOk(list) {
			t.Error("may not be laid:", list)
		}
	}
	for _, list := range badLists() {
		if impl.LaidOk(list) {
			t.Error("may be laid:", list)
		}
	}
}

func TestUnionAreaCountsCells(t *testing.T) {
	for _, list := range sampleLists() {
		if got, want := impl.UnionArea(list), unionCells(list).count(); got != want {
			t.Fatal(list, got, "want", want)
		}
	}
}

func TestUnionAreaExamples(t *testing.T) {
	one := rect(2, 1, 6, 5)
	for _, c := range []struct {
		list []impl.Rect
		want int
	}{
		{nil, 0},
		{[]impl.Rect{}, 0},
		{[]impl.Rect{one}, 16},
		{[]impl.Rect{one, one}, 16},
		{slices.Repeat([]impl.Rect{one}, 7), 16},
		{[]impl.Rect{one, rect(6, 1, 8, 5)}, 24},                  // touches on the right
		{[]impl.Rect{one, rect(6, 5, 7, 6)}, 17},                  // touches at a corner
		{[]impl.Rect{one, rect(3, 2, 4, 3)}, 16},                  // is within
		{[]impl.Rect{rect(0, 9, 20, 11), rect(9, 0, 11, 20)}, 76}, // a cross
		{[]impl.Rect{rect(0, 0, 20, 20), one}, 400},
	} {
		if got := impl.UnionArea(c.list); got != c.want {
			t.Error(c.list, got, "want", c.want)
		}
	}
}

func TestUnionAreaOfEachRectangle(t *testing.T) {
	for _, r := range allRects() {
		if got := impl.UnionArea([]impl.Rect{r}); got != (r.Right-r.Left)*(r.High-r.Low) {
			t.Fatal(r, got)
		}
	}
}

func TestAllCommonHasTheCellsThatAllHave(t *testing.T) {
	for _, list := range sampleLists() {
		shared := cellsOf(rect(0, 0, field, field))
		for _, r := range list {
			shared = shared.and(cellsOf(r))
		}
		c, ok := impl.AllCommon(list)
		if ok != (len(list) > 0 && shared.count() > 0) {
			t.Fatal(list, c, ok)
		}
		if ok && (!impl.RectOk(c) || cellsOf(c) != shared) {
			t.Fatal(list, c)
		}
		if !ok && c != (impl.Rect{}) {
			t.Fatal("something beside false:", list, c)
		}
	}
}

func TestAllCommonExamples(t *testing.T) {
	one := rect(2, 1, 6, 5)
	for _, c := range []struct {
		list []impl.Rect
		want impl.Rect
		ok   bool
	}{
		{nil, impl.Rect{}, false},
		{[]impl.Rect{}, impl.Rect{}, false},
		{[]impl.Rect{one}, one, true},
		{[]impl.Rect{one, one}, one, true},
		{slices.Repeat([]impl.Rect{one}, 7), one, true},
		{[]impl.Rect{one, rect(0, 0, 4, 3), rect(3, 2, 5, 3)}, rect(3, 2, 4, 3), true},
		{[]impl.Rect{one, rect(6, 1, 8, 5)}, impl.Rect{}, false},                        // touches
		{[]impl.Rect{one, rect(6, 5, 7, 6)}, impl.Rect{}, false},                        // touches at a corner
		{[]impl.Rect{rect(0, 0, 3, 9), one, rect(4, 0, 9, 9)}, impl.Rect{}, false},      // the first and the last one do not meet
		{[]impl.Rect{rect(0, 0, 3, 9), rect(4, 0, 9, 9), one}, impl.Rect{}, false},      // the last one meets both
		{[]impl.Rect{rect(0, 9, 20, 11), rect(9, 0, 11, 20)}, rect(9, 9, 11, 11), true}, // a cross
	} {
		if got, ok := impl.AllCommon(c.list); got != c.want || ok != c.ok {
			t.Error(c.list, got, ok)
		}
	}
}

// A cell that so many have is in as many common parts of k as there are choices of k of them.
func TestSumsOfCountsCellsByChoices(t *testing.T) {
	choices := [laid + 1][laid + 1]int{}
	for n := range choices {
		choices[n][0] = 1
		for k := 1; k <= n; k++ {
			choices[n][k] = choices[n-1][k-1] + choices[n-1][k]
		}
	}
	for _, list := range sampleLists() {
		want := make([]int, len(list))
		for _, row := range depthsOf(list) {
			for _, depth := range row {
				for k := range want {
					want[k] += choices[depth][k+1]
				}
			}
		}
		if got := impl.SumsOf(list); !slices.Equal(got, want) {
			t.Fatal(list, got, "want", want)
		}
	}
}

func TestSumsOfExamples(t *testing.T) {
	one := rect(2, 1, 6, 5)
	for _, c := range []struct {
		list []impl.Rect
		want []int
	}{
		{nil, nil},
		{[]impl.Rect{one}, []int{16}},
		{[]impl.Rect{one, one}, []int{32, 16}},
		{[]impl.Rect{one, one, one}, []int{48, 48, 16}},
		{slices.Repeat([]impl.Rect{rect(7, 7, 8, 8)}, 7), []int{7, 21, 35, 35, 21, 7, 1}},
		{slices.Repeat([]impl.Rect{rect(0, 0, 20, 20)}, 7), []int{2800, 8400, 14000, 14000, 8400, 2800, 400}},
		{[]impl.Rect{one, rect(6, 1, 8, 5)}, []int{24, 0}}, // touches
		{[]impl.Rect{one, rect(6, 5, 7, 6)}, []int{17, 0}}, // touches at a corner
		{[]impl.Rect{rect(0, 0, 4, 3), one}, []int{28, 4}},
		{[]impl.Rect{rect(0, 0, 4, 3), one, rect(3, 2, 5, 3)}, []int{30, 7, 1}},
	} {
		if got := impl.SumsOf(c.list); !slices.Equal(got, c.want) {
			t.Error(c.list, got, "want", c.want)
		}
	}
}

func TestWithOnePutsItBehind(t *testing.T) {
	for _, list := range sampleLists() {
		for _, r := range []impl.Rect{rect(0, 0, 1, 1), rect(3, 2, 5, 3), rect(0, 0, 20, 20)} {
			got, ok := impl.WithOne(list, r)
			if ok != (len(list) < laid) {
				t.Fatal(list, ok)
			}
			if ok && (len(got) != len(list)+1 || !slices.Equal(got[:len(list)], list) || got[len(list)] != r) {
				t.Fatal(list, r, got)
			}
			if !ok && got != nil {
				t.Fatal("something beside false:", list, got)
			}
		}
	}
}

func TestWithOneAtMaxLaid(t *testing.T) {
	r := rect(2, 1, 6, 5)
	six := slices.Repeat([]impl.Rect{r}, 6)
	seven, ok := impl.WithOne(six, r)
	if !ok || len(seven) != 7 || !impl.LaidOk(seven) {
		t.Fatal(seven, ok)
	}
	if eight, ok := impl.WithOne(seven, r); ok || eight != nil {
		t.Fatal(eight, ok)
	}
}

func TestWithOneOfNone(t *testing.T) {
	for _, none := range [][]impl.Rect{nil, {}} {
		if got, ok := impl.WithOne(none, rect(2, 1, 6, 5)); !ok || !slices.Equal(got, []impl.Rect{rect(2, 1, 6, 5)}) {
			t.Error(got, ok)
		}
	}
}

func TestWithOneRefusesWhatIsNoRectangle(t *testing.T) {
	for _, bad := range badRects() {
		for _, list := range [][]impl.Rect{nil, {rect(2, 1, 6, 5)}, slices.Repeat([]impl.Rect{rect(2, 1, 6, 5)}, 6)} {
			if got, ok := impl.WithOne(list, bad); ok || got != nil {
				t.Error(list, bad, got, ok)
			}
		}
	}
}

func TestInvalidListsHaveFixedResults(t *testing.T) {
	for _, list := range badLists() {
		if got := impl.UnionArea(list); got != -1 {
			t.Error("union", list, got)
		}
		if got, ok := impl.AllCommon(list); ok || got != (impl.Rect{}) {
			t.Error("common", list, got, ok)
		}
		if got := impl.SumsOf(list); got != nil {
			t.Error("sums", list, got)
		}
		if got, ok := impl.WithOne(list, rect(0, 0, 1, 1)); ok || got != nil {
			t.Error("with one", list, got, ok)
		}
	}
}

func TestUnionsLeaveTheirArgumentsAsTheyWere(t *testing.T) {
	for _, list := range append(sampleLists(), badLists()...) {
		whole, part := guarded(list)
		before := slices.Clone(whole)
		impl.LaidOk(part)
		impl.UnionArea(part)
		impl.AllCommon(part)
		impl.SumsOf(part)
		impl.WithOne(part, rect(3, 2, 5, 3))
		if !slices.Equal(whole, before) {
			t.Fatal("written to:", before, whole)
		}
	}
}

func TestResultsOfUnionsAreNewMemory(t *testing.T) {
	mark := rect(11, 12, 13, 14)
	for _, list := range sampleLists() {
		whole, part := guarded(list)
		before := slices.Clone(whole)
		first, ok := impl.WithOne(part, rect(3, 2, 5, 3))
		second, _ := impl.WithOne(part, rect(3, 2, 5, 3))
		kept := slices.Clone(second)
		fill(first, mark)
		if ok && (!slices.Equal(whole, before) || !slices.Equal(second, kept)) {
			t.Fatal("shared:", list)
		}
		sums, again := impl.SumsOf(part), impl.SumsOf(part)
		counts := slices.Clone(again)
		fill(sums, -7)
		if !slices.Equal(again, counts) {
			t.Fatal("shared sums:", list)
		}
	}
}
