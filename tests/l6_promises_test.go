package tests

import (
	"slices"
	"testing"

	"loop.example/laidrectangles/impl"
)

func TestPromise25MeetingsAreCountedTwice(t *testing.T) {
	meetsAll := 0
	for _, list := range meetingLists() {
		meets := impl.MeetsOf(list)
		if len(meets) != len(list) {
			t.Fatal("one number for each:", list, meets)
		}
		together, pairs := 0, 0
		for i, r := range list {
			others := 0
			for j, s := range list {
				if i != j && impl.MeetOk(r, s) {
					others++
				}
			}
			together, pairs = together+meets[i], pairs+others
			if all := others == len(list)-1; meets[i] < 0 || meets[i] >= len(list) || (meets[i] == len(list)-1) != all {
				t.Fatal("one less just if it meets all others:", list, i, meets, all)
			}
			if meets[i] == len(list)-1 && len(list) > 2 {
				meetsAll++
			}
		}
		if together%2 != 0 || together != pairs {
			t.Fatal("all together:", list, meets, pairs)
		}
	}
	if meetsAll < 50 {
		t.Error("too few samples with one that meets all others:", meetsAll)
	}
}

func TestPromise26TheMostThatMeetAreTheGreatestDepth(t *testing.T) {
	seen := map[int]bool{}
	for _, list := range meetingLists() {
		most := impl.MostMeeting(list)
		if depth, _, _, _ := impl.DeepestOf(list); most != depth {
			t.Fatal("depth:", list, most, depth)
		}
		if all := impl.AllMeetOk(list); (most == len(list)) != all {
			t.Fatal("all meet:", list, most, all)
		}
		seen[most] = true
	}
	for want := range laid + 1 {
		if !seen[want] {
			t.Error("no sample of which so many meet:", want)
		}
	}
}

func TestPromise27AsManyColoursAsMeetAtLeast(t *testing.T) {
	least, greatest := 0, 0
	for _, list := range meetingLists() {
		colours, most, meets := impl.ColoursOf(list), impl.MostMeeting(list), 0
		for _, n := range impl.MeetsOf(list) {
			meets = max(meets, n)
		}
		if colours < most || colours > meets+1 {
			t.Fatal(list, colours, most, meets)
		}
		if colours == most && colours < meets+1 {
			least++
		}
		if colours > most && colours == meets+1 {
			greatest++
		}
	}
	if least < 50 || greatest < 10 {
		t.Error("too few samples at one of both bounds:", least, greatest)
	}
}

func TestPromise27WithTheSameLowAndHighSidesAsManyAsMeet(t *testing.T) {
	seen := map[int]bool{}
	for _, list := range meetingLists() {
		if len(list) == 0 {
			continue
		}
		same := withSameRows(list)
		colours, most := impl.ColoursOf(same), impl.MostMeeting(same)
		if colours != most {
			t.Fatal(same, colours, most)
		}
		seen[colours] = true
	}
	for want := 1; want <= laid; want++ {
		if !seen[want] {
			t.Error("no sample needs so many:", want)
		}
	}
}

func TestPromise28PaintedOneByOneNoneThatMeetAreAlike(t *testing.T) {
	greatest := 0
	for _, list := range meetingLists() {
		painted, meets := impl.PaintedBy(list), impl.MeetsOf(list)
		if len(painted) != len(list) {
			t.Fatal("one colour for each:", list, painted)
		}
		used := map[int]bool{}
		for i, r := range list {
			for j, s := range list[:i] {
				if painted[i] == painted[j] && impl.MeetOk(r, s) {
					t.Fatal("alike:", list, j, i, painted)
				}
			}
			if painted[i] < 0 || painted[i] > meets[i] {
				t.Fatal("at most the others that it meets:", list, i, painted, meets)
			}
			if painted[i] == meets[i] && painted[i] > 2 {
				greatest++
			}
			used[painted[i]] = true
		}
		if colours := impl.ColoursOf(list); len(used) < colours {
			t.Fatal("at least the least number of colours:", list, painted, colours)
		}
	}
	if greatest < 50 {
		t.Error("too few samples with a colour that is as many as it meets:", greatest)
	}
}

// Each lesser colour is one that a rectangle ahead has which meets it: else it would have that.
func TestEachHasTheLeastColourThatIsFree(t *testing.T) {
	for _, list := range meetingLists() {
		painted := impl.PaintedBy(list)
		for i, r := range list {
			ahead := map[int]bool{}
			for j, s := range list[:i] {
				if impl.MeetOk(r, s) {
					ahead[painted[j]] = true
				}
			}
			for lesser := range painted[i] {
				if !ahead[lesser] {
					t.Fatal("free:", list, i, lesser, painted)
				}
			}
		}
	}
}

// A further rectangle behind the others changes no colour of theirs, and needs at most a new one for itself.
func TestMeetingsWithAFurtherRectangle(t *testing.T) {
	draw := drawing(27)
	for _, list := range meetingLists() {
		meets, most, colours, painted := impl.MeetsOf(list), impl.MostMeeting(list), impl.ColoursOf(list), impl.PaintedBy(list)
		for _, r := range append(draw.bars(2, 6), draw.rect(20), rect(0, 0, 20, 20), rect(19, 19, 20, 20)) {
			longer, ok := impl.WithOne(list, r)
			if !ok {
				continue
			}
			if n := impl.MostMeeting(longer); n < most || n > most+1 {
				t.Fatal("most:", list, r, most, n)
			}
			if n := impl.ColoursOf(longer); n < colours || n > colours+1 {
				t.Fatal("colours:", list, r, colours, n)
			}
			if n := impl.PaintedBy(longer); !slices.Equal(n[:len(list)], painted) {
				t.Fatal("painted:", list, r, painted, n)
			}
			more := impl.MeetsOf(longer)
			for i, s := range list {
				if met := impl.MeetOk(r, s); met != (more[i] == meets[i]+1) || !met && more[i] != meets[i] {
					t.Fatal("meets:", list, r, meets, more)
				}
			}
		}
	}
}

// Reversed they meet as before, but are painted in another order.
func TestMeetingsAreTheSameReversedMovedAndTurnedOver(t *testing.T) {
	for _, list := range meetingLists() {
		c := meetingCase{"as it is", list, impl.MeetsOf(list), impl.MostMeeting(list), impl.ColoursOf(list), impl.PaintedBy(list)}
		c.checkOver(t)
		for _, step := range [][2]int{{1, 0}, {0, 1}, {-1, 0}, {0, -1}, {14, 14}, {17, 3}} {
			if moved, ok := movedList(list, step[0], step[1]); ok {
				c.name, c.list = "moved", moved
				c.check(t)
			}
		}
		reversed := slices.Clone(list)
		slices.Reverse(reversed)
		meets := impl.MeetsOf(reversed)
		slices.Reverse(meets)
		if most, colours := impl.MostMeeting(reversed), impl.ColoursOf(reversed); most != c.most || colours != c.colours || !slices.Equal(meets, c.meets) {
			t.Fatal("reversed:", list, most, colours, meets)
		}
	}
}
