package tests

import (
	"testing"

	"loop.example/laidrectangles/impl"
)

func TestPromise8NoRectanglesMayBeLaid(t *testing.T) {
	if !impl.LaidOk(nil) || !impl.LaidOk([]impl.Rect{}) {
		t.Fatal("none")
	}
	for _, r := range allRects() {
		if !impl.LaidOk([]impl.Rect{r}) {
			t.Fatal("one:", r)
		}
	}
	for _, list := range sampleLists() {
		for n := len(list); n >= 0; n-- {
			if !impl.LaidOk(list[:n]) {
				t.Fatal("without the last one:", list[:n])
			}
		}
	}
}

func TestPromise9UnionsAreToldByWhatSomeHaveInCommon(t *testing.T) {
	for _, list := range sampleLists() {
		union, told, all, greatest := impl.UnionArea(list), 0, 0, 0
		for i, sum := range impl.SumsOf(list) {
			if i%2 == 0 {
				told += sum
			} else {
				told -= sum
			}
		}
		for _, r := range list {
			area := impl.AreaOf(r)
			all += area
			greatest = max(greatest, area)
		}
		if union != told || union < greatest || union > all {
			t.Fatal(list, union, told, greatest, all)
		}
	}
}

func TestPromise10WhatAllHaveInCommonIsWithinEach(t *testing.T) {
	for _, list := range sampleLists() {
		c, ok := impl.AllCommon(list)
		if !ok {
			continue
		}
		for _, r := range list {
			if !impl.WithinOk(c, r) {
				t.Fatal(list, c, r)
			}
		}
		if len(list) < 2 {
			continue
		}
		if others, some := impl.AllCommon(list[:len(list)-1]); !some || !impl.WithinOk(c, others) {
			t.Fatal(list, c, others, some)
		}
	}
}

func TestPromise11TheFirstSumIsAllAreas(t *testing.T) {
	for _, list := range sampleLists() {
		sums := impl.SumsOf(list)
		if len(sums) != len(list) {
			t.Fatal(list, sums)
		}
		if len(list) == 0 {
			continue
		}
		all, shared := 0, 0
		for _, r := range list {
			all += impl.AreaOf(r)
		}
		if c, ok := impl.AllCommon(list); ok {
			shared = impl.AreaOf(c)
		}
		if sums[0] != all || sums[len(sums)-1] != shared {
			t.Fatal(list, sums, all, shared)
		}
		if len(sums) > 1 && impl.UnionArea(list) < sums[0]-sums[1] {
			t.Fatal(list, sums, impl.UnionArea(list))
		}
	}
}

func TestPromise12AFurtherRectangleAddsWhatIsNotShared(t *testing.T) {
	draw := drawing(12)
	for _, list := range sampleLists() {
		further := append([]impl.Rect{rect(0, 0, 20, 20), rect(7, 7, 8, 8), draw.rect(20), draw.rect(6)}, list...)
		for _, r := range further {
			longer, ok := impl.WithOne(list, r)
			if ok != (len(list) < laid) {
				t.Fatal(list, r, ok)
			}
			if !ok {
				continue
			}
			more := impl.UnionArea(longer) - impl.UnionArea(list)
			if more < 0 || more > impl.AreaOf(r) {
				t.Fatal(list, r, more)
			}
			for _, other := range list {
				if impl.WithinOk(r, other) && more != 0 {
					t.Fatal("within one of the others:", list, r, more)
				}
			}
		}
	}
}

func TestUnionsAreTheSameInAnyOrder(t *testing.T) {
	for _, list := range sampleLists() {
		var turned []impl.Rect
		for i := len(list) - 1; i >= 0; i-- {
			turned = append(turned, list[i])
		}
		c, ok := impl.AllCommon(list)
		if d, also := impl.AllCommon(turned); d != c || also != ok || impl.UnionArea(turned) != impl.UnionArea(list) {
			t.Fatal(list, c, d)
		}
	}
}
