package tests

import (
	"math/bits"
	"slices"
	"testing"

	"loop.example/laidrectangles/impl"
)

// meetingCase is a list with what is to be told of its pairs and of its colours.
type meetingCase struct {
	name          string
	list          []impl.Rect
	meets         []int
	most, colours int
	painted       []int
}

// check compares all four functions with the case.
func (c meetingCase) check(t *testing.T) {
	t.Helper()
	if got := impl.MeetsOf(c.list); !slices.Equal(got, c.meets) {
		t.Error("meets:", c.name, c.list, got, "want", c.meets)
	}
	if got := impl.MostMeeting(c.list); got != c.most {
		t.Error("most:", c.name, c.list, got, "want", c.most)
	}
	if got := impl.ColoursOf(c.list); got != c.colours {
		t.Error("colours:", c.name, c.list, got, "want", c.colours)
	}
	if got := impl.PaintedBy(c.list); !slices.Equal(got, c.painted) {
		t.Error("painted:", c.name, c.list, got, "want", c.painted)
	}
}

// checkOver does so for the list turned over too: its rectangles meet as they did, and in the same order.
func (c meetingCase) checkOver(t *testing.T) {
	t.Helper()
	c.check(t)
	c.name, c.list = c.name+", turned over", turnedOver(c.list)
	c.check(t)
}

// caseOf returns what is told of a list by all that lies over its cells.
func caseOf(list []impl.Rect) meetingCase {
	sharing := sharingOf(list)
	c := meetingCase{name: "drawn", list: list, most: mostSharing(sharing, 1<<len(list)-1), colours: leastClasses(sharing)}
	for i, with := range sharing {
		c.meets = append(c.meets, bits.OnesCount(uint(with&^(1<<i))))
	}
	c.painted = paintedInOrder(sharing)
	return c
}

// sharingOf tells for each rectangle which ones share a cell with it, itself too: all that is over one of its cells.
func sharingOf(list []impl.Rect) []int {
	out := make([]int, len(list))
	for _, stack := range stacksOf(list) {
		for i := range out {
			if stack>>i&1 == 1 {
				out[i] |= stack
			}
		}
	}
	return out
}

// mostSharing takes one rectangle of a set, and goes on with those behind it that share a cell with it.
func mostSharing(sharing []int, set int) int {
	most := 0
	for i, with := range sharing {
		if set>>i&1 == 1 {
			behind := set &^ (1<<(i+1) - 1)
			most = max(most, 1+mostSharing(sharing, behind&with))
		}
	}
	return most
}

// leastClasses goes through all sets of rectangles from the smallest on: one needs one colour more than what is left of it without those of one colour.
func leastClasses(sharing []int) int {
	least := make([]int, 1<<len(sharing))
	for set := 1; set < len(least); set++ {
		least[set] = len(sharing)
		for class := 1; class <= set; class++ {
			if class&^set == 0 && mostSharing(sharing, class) == 1 {
				least[set] = min(least[set], least[set&^class]+1)
			}
		}
	}
	return least[len(least)-1]
}

// paintedInOrder crosses out for each rectangle the colours of those ahead that share a cell with it.
func paintedInOrder(sharing []int) []int {
	var out []int
	for _, with := range sharing {
		crossed := 0
		for j, colour := range out {
			if with>>j&1 == 1 {
				crossed |= 1 << colour
			}
		}
		out = append(out, bits.TrailingZeros(^uint(crossed)))
	}
	return out
}

// shuffled returns the rectangles in an order that is drawn.
func (d *drawing) shuffled(list []impl.Rect) []impl.Rect {
	out := slices.Clone(list)
	for i := range out {
		j := i + d.below(len(out)-i)
		out[i], out[j] = out[j], out[i]
	}
	return out
}

// ladder returns three rows and three columns that can be painted with two colours, and take four in this order: the last one meets one of each of three colours.
func ladder() []impl.Rect {
	return []impl.Rect{rect(2, 0, 5, 1), rect(0, 0, 1, 5), rect(0, 2, 3, 3), rect(4, 0, 5, 5), rect(2, 0, 3, 5), rect(0, 4, 5, 5)}
}

// across returns a ring of six that is painted from side to side: each of its bars has the colour of the one across.
func across() []impl.Rect {
	ring := ringOf(6, 6)
	return []impl.Rect{ring[0], ring[4], ring[2], ring[5], ring[3], ring[1]}
}

// meetingLists returns the lists of before, and some in other orders.
func meetingLists() [][]impl.Rect {
	draw := drawing(6)
	out := piercingLists()
	for count := 4; count <= laid; count++ {
		for range 20 {
			out = append(out, draw.shuffled(ringOf(count, 20)))
		}
	}
	for range 40 {
		out = append(out, draw.shuffled(ladder()), draw.shuffled(append(ladder(), draw.rect(6))))
		out = append(out, draw.shuffled(append(ringOf(5, 6), draw.list(2, 6)...)))
	}
	return out
}

func coloursIn(painted []int) int {
	if len(painted) == 0 {
		return 0
	}
	return slices.Max(painted) + 1
}

func TestMeetingsAreCountedCellByCell(t *testing.T) {
	more, wasted := 0, 0
	for _, list := range meetingLists() {
		c := caseOf(list)
		c.check(t)
		if c.colours > c.most {
			more++
		}
		if coloursIn(c.painted) > c.colours {
			wasted++
		}
	}
	if more < 50 || wasted < 50 {
		t.Error("too few samples that need more colours than meet, or that are painted with more than they need:", more, wasted)
	}
}

func TestMeetingsOfFewRectangles(t *testing.T) {
	r, s, far := rect(0, 0, 4, 3), rect(2, 1, 6, 5), rect(8, 0, 9, 9)
	whole := rect(0, 0, 20, 20)
	for _, c := range []meetingCase{
		{"none", nil, nil, 0, 0, nil},
		{"none, and not nil", []impl.Rect{}, nil, 0, 0, nil},
		{"one", []impl.Rect{r}, []int{0}, 1, 1, []int{0}},
		{"one cell", []impl.Rect{rect(19, 19, 20, 20)}, []int{0}, 1, 1, []int{0}},
		{"the field", []impl.Rect{whole}, []int{0}, 1, 1, []int{0}},
		{"two that meet", []impl.Rect{r, s}, []int{1, 1}, 2, 2, []int{0, 1}},
		{"two that meet in one cell", []impl.Rect{r, rect(3, 2, 6, 5)}, []int{1, 1}, 2, 2, []int{0, 1}},
		{"two that are far", []impl.Rect{r, far}, []int{0, 0}, 1, 1, []int{0, 0}},
		{"two that meet, and a far one", []impl.Rect{r, s, far}, []int{1, 1, 0}, 2, 2, []int{0, 1, 0}},
		{"a far one, and two that meet", []impl.Rect{far, r, s}, []int{0, 1, 1}, 2, 2, []int{0, 0, 1}},
		{"two equal ones", []impl.Rect{r, r}, []int{1, 1}, 2, 2, []int{0, 1}},
		{"three equal ones", []impl.Rect{r, r, r}, []int{2, 2, 2}, 3, 3, []int{0, 1, 2}},
		{"equal ones, and other equal ones", []impl.Rect{r, far, r, far, r}, []int{2, 1, 2, 1, 2}, 3, 3, []int{0, 0, 1, 1, 2}},
		{"equal ones, and one that touches them", []impl.Rect{r, r, rect(4, 0, 8, 3)}, []int{1, 1, 0}, 2, 2, []int{0, 1, 0}},
		{"one within another one", []impl.Rect{r, rect(1, 1, 2, 2)}, []int{1, 1}, 2, 2, []int{0, 1}},
		{"two within another one", []impl.Rect{rect(1, 1, 2, 2), rect(2, 1, 3, 2), r}, []int{1, 1, 2}, 2, 2, []int{0, 0, 1}},
		{"the field, and two that are far", []impl.Rect{whole, r, far}, []int{2, 1, 1}, 2, 2, []int{0, 1, 1}},
		{"two that are far, and the field", []impl.Rect{r, far, whole}, []int{1, 1, 2}, 2, 2, []int{0, 0, 1}},
		{"touch at a side", []impl.Rect{r, rect(4, 0, 8, 3)}, []int{0, 0}, 1, 1, []int{0, 0}},
		{"touch at a corner", []impl.Rect{r, rect(4, 3, 8, 6)}, []int{0, 0}, 1, 1, []int{0, 0}},
		{"touch at the other corner", []impl.Rect{rect(4, 0, 8, 3), rect(0, 3, 4, 6)}, []int{0, 0}, 1, 1, []int{0, 0}},
		{"four that touch at one point", []impl.Rect{rect(0, 0, 4, 4), rect(4, 0, 8, 4), rect(0, 4, 4, 8), rect(4, 4, 8, 8)}, []int{0, 0, 0, 0}, 1, 1, []int{0, 0, 0, 0}},
		{"four that touch at one point, and one over it", []impl.Rect{rect(0, 0, 4, 4), rect(4, 0, 8, 4), rect(0, 4, 4, 8), rect(4, 4, 8, 8), rect(3, 3, 5, 5)}, []int{1, 1, 1, 1, 4}, 2, 2, []int{0, 0, 0, 0, 1}},
		{"three that meet in one cell", []impl.Rect{rect(0, 0, 5, 5), rect(4, 0, 9, 5), rect(4, 4, 9, 9)}, []int{2, 2, 2}, 3, 3, []int{0, 1, 2}},
		{"a chain of three", []impl.Rect{rect(0, 0, 4, 1), rect(3, 0, 8, 1), rect(7, 0, 9, 1)}, []int{1, 2, 1}, 2, 2, []int{0, 1, 0}},
		{"a chain of three, its ends first", []impl.Rect{rect(0, 0, 4, 1), rect(7, 0, 9, 1), rect(3, 0, 8, 1)}, []int{1, 1, 2}, 2, 2, []int{0, 0, 1}},
		{"a chain of four", []impl.Rect{rect(0, 0, 4, 1), rect(3, 0, 8, 1), rect(7, 0, 10, 1), rect(9, 0, 20, 1)}, []int{1, 2, 2, 1}, 2, 2, []int{0, 1, 0, 1}},
		{"a chain of four, its ends first", []impl.Rect{rect(0, 0, 4, 1), rect(9, 0, 20, 1), rect(3, 0, 8, 1), rect(7, 0, 10, 1)}, []int{1, 1, 2, 2}, 2, 2, []int{0, 0, 1, 2}},
	} {
		c.checkOver(t)
	}
}

func TestMeetingsOfManyRectangles(t *testing.T) {
	one := rect(2, 1, 6, 5)
	cross := []impl.Rect{rect(0, 5, 20, 6), rect(0, 7, 20, 8), rect(0, 9, 20, 10), rect(5, 0, 6, 20), rect(7, 0, 8, 20), rect(9, 0, 10, 20)}
	each, none, ascending := slices.Repeat([]int{6}, 7), make([]int, 7), []int{0, 1, 2, 3, 4, 5, 6}
	for _, c := range []meetingCase{
		{"seven equal ones", slices.Repeat([]impl.Rect{one}, 7), each, 7, 7, ascending},
		{"the field seven times", slices.Repeat([]impl.Rect{rect(0, 0, 20, 20)}, 7), each, 7, 7, ascending},
		{"seven that meet in one cell", []impl.Rect{rect(0, 0, 10, 10), rect(9, 9, 20, 20), rect(0, 9, 10, 20), rect(9, 0, 20, 10), rect(0, 9, 20, 10), rect(9, 0, 10, 20), rect(8, 8, 11, 11)}, each, 7, 7, ascending},
		{"seven nested", []impl.Rect{rect(6, 6, 14, 14), rect(5, 5, 15, 15), rect(4, 4, 16, 16), rect(3, 3, 17, 17), rect(2, 2, 18, 18), rect(1, 1, 19, 19), rect(0, 0, 20, 20)}, each, 7, 7, ascending},
		{"six that meet, and one that touches", append(slices.Repeat([]impl.Rect{one}, 6), rect(6, 5, 7, 6)), []int{5, 5, 5, 5, 5, 5, 0}, 6, 6, []int{0, 1, 2, 3, 4, 5, 0}},
		{"seven columns that touch", columnsOf(7), none, 1, 1, none},
		{"seven that touch at corners", []impl.Rect{rect(0, 0, 1, 1), rect(1, 1, 2, 2), rect(2, 2, 3, 3), rect(3, 3, 4, 4), rect(4, 4, 5, 5), rect(5, 5, 6, 6), rect(6, 6, 20, 20)}, none, 1, 1, none},
		{"columns that touch, and the field", append(columnsOf(6), rect(0, 0, 20, 20)), []int{1, 1, 1, 1, 1, 1, 6}, 2, 2, []int{0, 0, 0, 0, 0, 0, 1}},
		{"three rows and three columns", cross, []int{3, 3, 3, 3, 3, 3}, 2, 2, []int{0, 0, 0, 1, 1, 1}},
		{"three rows, three columns, and one apart", append([]impl.Rect{rect(19, 19, 20, 20)}, cross...), []int{0, 3, 3, 3, 3, 3, 3}, 2, 2, []int{0, 0, 0, 0, 1, 1, 1}},
		{"the same rows", []impl.Rect{rect(0, 3, 4, 9), rect(2, 3, 6, 9), rect(5, 3, 8, 9), rect(7, 3, 12, 9), rect(11, 3, 14, 9), rect(13, 3, 20, 9), rect(0, 3, 1, 9)}, []int{2, 2, 2, 2, 2, 1, 1}, 2, 2, []int{0, 1, 0, 1, 0, 1, 1}},
		{"the same rows, three over one cell", []impl.Rect{rect(0, 3, 4, 9), rect(3, 3, 8, 9), rect(7, 3, 9, 9), rect(2, 3, 5, 9), rect(4, 3, 8, 9)}, []int{2, 4, 2, 3, 3}, 3, 3, []int{0, 1, 0, 2, 3}},
		{"three pairs of equal ones, and one over all", []impl.Rect{one, one, rect(6, 1, 9, 5), rect(6, 1, 9, 5), rect(2, 5, 9, 6), rect(2, 5, 9, 6), rect(5, 4, 7, 6)}, []int{2, 2, 2, 2, 2, 2, 6}, 3, 3, []int{0, 1, 0, 1, 0, 1, 2}},
	} {
		c.checkOver(t)
	}
}

// A ring with an odd number of bars needs a third colour, though no three of them meet.
func TestMoreColoursThanMeet(t *testing.T) {
	five, whole := ringOf(5, 6), rect(0, 0, 20, 20)
	for _, c := range []meetingCase{
		{"a ring of four", ringOf(4, 6), []int{2, 2, 2, 2}, 2, 2, []int{0, 1, 1, 0}},
		{"a ring of five", five, []int{2, 2, 2, 2, 2}, 2, 3, []int{0, 1, 1, 0, 2}},
		{"a ring of six", ringOf(6, 6), []int{2, 2, 2, 2, 2, 2}, 2, 2, []int{0, 1, 1, 0, 1, 0}},
		{"a ring of seven", ringOf(7, 6), []int{2, 2, 2, 2, 2, 2, 2}, 2, 3, []int{0, 1, 1, 0, 1, 0, 2}},
		{"a ring of seven along the borders", ringOf(7, 20), []int{2, 2, 2, 2, 2, 2, 2}, 2, 3, []int{0, 1, 1, 0, 1, 0, 2}},
		{"a ring of five, and the field", append(slices.Clone(five), whole), []int{3, 3, 3, 3, 3, 5}, 3, 4, []int{0, 1, 1, 0, 2, 3}},
		{"the field, and a ring of five", append([]impl.Rect{whole}, five...), []int{5, 3, 3, 3, 3, 3}, 3, 4, []int{0, 1, 2, 2, 1, 3}},
		{"the field twice, and a ring of five", append([]impl.Rect{whole, whole}, five...), []int{6, 6, 4, 4, 4, 4, 4}, 4, 5, []int{0, 1, 2, 3, 3, 2, 4}},
		{"a ring of five, and two within it that touch", append(slices.Clone(five), rect(2, 2, 3, 3), rect(3, 3, 4, 4)), []int{2, 2, 2, 2, 2, 0, 0}, 2, 3, []int{0, 1, 1, 0, 2, 0, 0}},
		{"a ring of five, and one over a corner", append(slices.Clone(five), rect(0, 0, 1, 1)), []int{3, 2, 3, 2, 2, 2}, 3, 3, []int{0, 1, 1, 0, 2, 2}},
		{"a ring of five, and two of it again", append(slices.Clone(five), five[0], five[2]), []int{4, 3, 4, 3, 2, 4, 4}, 4, 4, []int{0, 1, 1, 0, 2, 2, 3}},
	} {
		c.checkOver(t)
	}
}

func TestMoreColoursInTheirOrderThanNeeded(t *testing.T) {
	far := rect(19, 19, 20, 20)
	crossed := []impl.Rect{rect(0, 0, 20, 1), rect(0, 2, 1, 20), rect(0, 2, 20, 3), rect(5, 0, 6, 20)}
	for _, c := range []meetingCase{
		{"a ring of six from side to side", across(), []int{2, 2, 2, 2, 2, 2}, 2, 2, []int{0, 0, 1, 1, 2, 2}},
		{"three rows and three columns", ladder(), []int{2, 2, 2, 2, 3, 3}, 2, 2, []int{0, 0, 1, 1, 2, 3}},
		{"three rows and three columns, the far one first", append([]impl.Rect{far}, ladder()...), []int{0, 2, 2, 2, 2, 3, 3}, 2, 2, []int{0, 0, 0, 1, 1, 2, 3}},
		{"three rows and three columns, the far one last", append(ladder(), far), []int{2, 2, 2, 2, 3, 3, 0}, 2, 2, []int{0, 0, 1, 1, 2, 3, 0}},
		{"two bars, and two more", crossed, []int{1, 1, 2, 2}, 2, 2, []int{0, 0, 1, 2}},
		{"the same ones, the last two first", []impl.Rect{crossed[2], crossed[3], crossed[0], crossed[1]}, []int{2, 2, 1, 1}, 2, 2, []int{0, 1, 0, 1}},
	} {
		c.checkOver(t)
	}
}

func TestMeetingsAtTheBorders(t *testing.T) {
	whole, all := rect(0, 0, 20, 20), []int{3, 3, 3, 3}
	for _, c := range []meetingCase{
		{"at 0, 0", []impl.Rect{whole, rect(0, 0, 1, 1), rect(0, 0, 20, 1), rect(0, 0, 1, 20)}, all, 4, 4, []int{0, 1, 2, 3}},
		{"at 19, 19", []impl.Rect{whole, rect(19, 19, 20, 20), rect(0, 19, 20, 20), rect(19, 0, 20, 20)}, all, 4, 4, []int{0, 1, 2, 3}},
		{"at 19, 0", []impl.Rect{whole, rect(19, 0, 20, 1), rect(0, 0, 20, 1), rect(19, 0, 20, 20)}, all, 4, 4, []int{0, 1, 2, 3}},
		{"at 0, 19", []impl.Rect{whole, rect(0, 19, 1, 20), rect(0, 19, 20, 20), rect(0, 0, 1, 20)}, all, 4, 4, []int{0, 1, 2, 3}},
		{"all corners of the field", []impl.Rect{rect(0, 0, 1, 1), rect(19, 19, 20, 20), rect(0, 19, 1, 20), rect(19, 0, 20, 1)}, []int{0, 0, 0, 0}, 1, 1, []int{0, 0, 0, 0}},
		{"all borders", frameOf(20), []int{2, 2, 2, 2}, 2, 2, []int{0, 0, 1, 1}},
		{"two halves", []impl.Rect{rect(0, 0, 10, 20), rect(10, 0, 20, 20)}, []int{0, 0}, 1, 1, []int{0, 0}},
		{"two halves, and the field", []impl.Rect{rect(0, 0, 20, 10), rect(0, 10, 20, 20), whole}, []int{1, 1, 2}, 2, 2, []int{0, 0, 1}},
	} {
		c.checkOver(t)
	}
}

func TestMeetingsInvalidListsHaveFixedResults(t *testing.T) {
	for _, list := range badLists() {
		meetingCase{"invalid", list, nil, -1, -1, nil}.check(t)
	}
}

func TestMeetingsMaxLaidAndOneMore(t *testing.T) {
	one, eight := rect(2, 1, 6, 5), make([]impl.Rect, 0, 8)
	for i := range 8 {
		eight = append(eight, rect(2*i, 0, 2*i+1, 20))
	}
	meetingCase{"seven that meet", slices.Repeat([]impl.Rect{one}, 7), slices.Repeat([]int{6}, 7), 7, 7, []int{0, 1, 2, 3, 4, 5, 6}}.check(t)
	meetingCase{"eight that would meet", slices.Repeat([]impl.Rect{one}, 8), nil, -1, -1, nil}.check(t)
	meetingCase{"seven that are apart", eight[:7], make([]int, 7), 1, 1, make([]int, 7)}.check(t)
	meetingCase{"eight that would be apart", eight, nil, -1, -1, nil}.check(t)
}

func TestMeetingsLeaveTheirArgumentsAsTheyWere(t *testing.T) {
	for _, list := range append(meetingLists(), badLists()...) {
		whole, part := guarded(list)
		before := slices.Clone(whole)
		impl.MeetsOf(part)
		impl.MostMeeting(part)
		impl.ColoursOf(part)
		impl.PaintedBy(part)
		if !slices.Equal(whole, before) {
			t.Fatal("written to:", before, whole)
		}
	}
}

func TestMeetingsAreNewMemory(t *testing.T) {
	for _, list := range meetingLists() {
		c := meetingCase{name: "written over", list: list, most: impl.MostMeeting(list), colours: impl.ColoursOf(list)}
		meets, painted := impl.MeetsOf(list), impl.PaintedBy(list)
		c.meets, c.painted = slices.Clone(meets), slices.Clone(painted)
		fill(meets, 99)
		if !slices.Equal(painted, c.painted) {
			t.Fatal("two results share memory:", list, painted)
		}
		fill(painted, 98)
		c.check(t)
	}
}
