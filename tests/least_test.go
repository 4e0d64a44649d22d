package tests

import (
	"slices"
	"testing"

	"loop.example/packageworld/impl"
)

// rolledFirst is a rank at which a range begins: mostly that of an old release, and otherwise that of a new one, between two, ahead of all, or behind them.
func rolledFirst(d *dice) int {
	list := []int{0, 9009, 9010, 100000, 100009, 103009, 105009, 150009, 200009, 200010, 300009, 300010, 9999999}
	return list[min(d.roll(len(list)), d.roll(len(list)))]
}

// rangesFrom are ranges with the same first version: of one span, short or long, and of many.
func rangesFrom(first int) []impl.Range {
	list := []impl.Range{rangeOf(span(first, first)), rangeOf(span(first, 9999999))}
	if first+1000000 <= 9999999 {
		list = append(list, comb(first, 2, 1, 40), rangeOf(span(first, first), span(first+1000000, 9999999)), rangeOf(span(first, first+5), span(first+7, first+7)))
	}
	return list
}

// risingNeeds are needs of names below one, and not of one, whose ranges begin anywhere; seldom one has no version.
func risingNeeds(d *dice, names int, most int, not int) []impl.Need {
	var list []impl.Need
	for name := 0; name < names; name++ {
		if name == not || len(list) == most || d.roll(3) > 0 {
			continue
		}
		ranges := rangesFrom(rolledFirst(d))
		r := ranges[d.roll(len(ranges))]
		if d.roll(100) == 0 {
			r = impl.Range{}
		}
		list = append(list, need(name, r))
	}
	return list
}

// risingShelf is a shelf of names below one, each in some versions, of which the needs begin anywhere.
func risingShelf(d *dice, names int) []impl.Release {
	s := rolledShelf(d, names)
	for i, x := range s {
		s[i].Needs = risingNeeds(d, names, d.roll(4), x.Name)
		s[i].Gone = d.roll(8) == 0
	}
	return s
}

// risingQuestions are of all numbers of names in turn.
func risingQuestions(seed uint64, many int) []question {
	d := &dice{state: seed}
	var list []question
	for i := range many {
		names := 1 + i%8
		list = append(list, question{s: risingShelf(d, names), needs: risingNeeds(d, names, 5, -1)})
	}
	return list
}

// leastQuestions are of all kinds of shelves.
func leastQuestions() []question {
	list := append(risingQuestions(9, 6000), smallShelves(400)...)
	list = append(list, plantedChoices(200)...)
	list = append(list, hardQuestions(200)...)
	d := &dice{state: 99}
	for _, s := range okShelves() {
		list = append(list, question{s: s}, question{s: s, needs: needsAny(0)}, question{s: s, needs: needsAny(d.roll(8))}, question{s: s, needs: rolledNeeds(d, 5, -1)}, question{s: s, needs: risingNeeds(d, 8, 5, -1)})
	}
	return list
}

// mustAsk tells without impl which release a need asks for: of all that can be, pair by pair, the one with the oldest version.
func mustAsk(s []impl.Release, n impl.Need) int {
	if len(n.R.Spans) == 0 {
		return -1
	}
	first, _ := impl.VersionAt(n.R.Spans[0].Low)
	oldest := -1
	for i := len(s) - 1; i >= 0; i-- {
		if s[i].Name != n.Name || s[i].Gone || mustLess(s[i].V, first) {
			continue
		}
		if oldest < 0 || mustLess(s[i].V, s[oldest].V) {
			oldest = i
		}
	}
	return oldest
}

// mustVisit tells without impl what comes up, round by round, each of which asks all again, until no further release does.
func mustVisit(s []impl.Release, needs []impl.Need) ([]int, bool) {
	var places []int
	for {
		all := slices.Clone(needs)
		for _, place := range places {
			all = append(all, s[place].Needs...)
		}
		var more []int
		for _, n := range all {
			more = append(more, mustAsk(s, n))
		}
		slices.Sort(more)
		more = slices.Compact(more)
		if slices.Contains(more, -1) {
			return nil, false
		}
		if slices.Equal(more, places) {
			return places, true
		}
		places = more
	}
}

// mustNewest tells without impl the newest one of each name at some places.
func mustNewest(s []impl.Release, places []int) []impl.Pick {
	var c []impl.Pick
	for name := range 8 {
		newest := -1
		for _, place := range places {
			if s[place].Name == name && (newest < 0 || mustLess(s[newest].V, s[place].V)) {
				newest = place
			}
		}
		if newest >= 0 {
			c = append(c, pick(name, s[newest].V))
		}
	}
	return c
}

// mustBoth tells without impl what two halves come to: of each name the newer one of both.
func mustBoth(a []impl.Pick, b []impl.Pick) []impl.Pick {
	var c []impl.Pick
	for _, name := range allNames() {
		both := append(picksOfName(a, name), picksOfName(b, name)...)
		slices.SortFunc(both, func(p impl.Pick, q impl.Pick) int {
			if mustLess(p.V, q.V) {
				return -1
			}
			return 1
		})
		if len(both) > 0 {
			c = append(c, both[len(both)-1])
		}
	}
	return c
}

// fromOn needs a name in a version or any newer one.
func fromOn(name int, v impl.Version) impl.Need {
	return need(name, rangeOf(span(impl.VersionRank(v), 9999999)))
}

func checkAsked(t *testing.T, s []impl.Release, n impl.Need, must int) {
	t.Helper()
	if place := impl.LeastOf(s, n); place != must {
		t.Fatalf("LeastOf(%v, %v) is %d, not %d", s, n, place, must)
	}
}

func checkVisited(t *testing.T, s []impl.Release, needs []impl.Need, must ...int) {
	t.Helper()
	if places, ok := impl.LeastVisit(s, needs); !ok || !slices.Equal(places, must) {
		t.Fatalf("LeastVisit(%v, %v) is %v, %v, not %v", s, needs, places, ok, must)
	}
}

func checkLeast(t *testing.T, s []impl.Release, needs []impl.Need, must ...impl.Pick) {
	t.Helper()
	if c, ok := impl.Least(s, needs); !ok || !slices.Equal(c, must) {
		t.Fatalf("Least(%v, %v) is %v, %v, not %v", s, needs, c, ok, must)
	}
}

func checkNoLeast(t *testing.T, s []impl.Release, needs []impl.Need) {
	t.Helper()
	if places, ok := impl.LeastVisit(s, needs); ok || len(places) != 0 {
		t.Fatalf("LeastVisit(%v, %v) is %v, %v", s, needs, places, ok)
	}
	if c, ok := impl.Least(s, needs); ok || len(c) != 0 {
		t.Fatalf("Least(%v, %v) is %v, %v", s, needs, c, ok)
	}
}

// checkEnough holds that needs have picks of their names that are not before the first versions of their ranges.
func checkEnough(t *testing.T, q question, needs []impl.Need, c []impl.Pick) {
	t.Helper()
	for _, n := range needs {
		v, ok := impl.PickOf(c, n.Name)
		if !ok || len(n.R.Spans) == 0 || impl.VersionRank(v) < n.R.Spans[0].Low {
			t.Fatalf("Least(%v, %v) is %v, which is not enough for %v", q.s, q.needs, c, n)
		}
	}
}

// checkNotOlder holds that each name that was picked is so still, in the same version or a newer one.
func checkNotOlder(t *testing.T, was []impl.Pick, now []impl.Pick) {
	t.Helper()
	for _, p := range was {
		if v, ok := impl.PickOf(now, p.Name); !ok || mustLess(v, p.V) {
			t.Fatalf("%v was picked, and it is %v now", was, now)
		}
	}
}

// checkNoneBetween holds that what a need asks for fits its name and the versions from the first one of its range on, and that none fits between; and that none fits at all where none is asked for.
func checkNoneBetween(t *testing.T, s []impl.Release, n impl.Need, place int) {
	t.Helper()
	if len(n.R.Spans) == 0 {
		checkAsked(t, s, n, -1)
		return
	}
	between := n
	between.R = rangeOf(span(n.R.Spans[0].Low, 9999999))
	if place >= 0 {
		if !slices.Contains(impl.ShelfFits(s, between), place) {
			t.Fatalf("LeastOf(%v, %v) is %d, which does not fit", s, n, place)
		}
		between.R.Spans[0].High = impl.VersionRank(s[place].V) - 1
	}
	if fits := impl.ShelfFits(s, between); len(fits) > 0 {
		t.Fatalf("LeastOf(%v, %v) is %d, and %v fit before that", s, n, place, fits)
	}
}

// needsAround are needs of all names whose ranges begin at the releases of a shelf, one rank ahead of them or behind them, and at the bounds of all ranks.
func needsAround(s []impl.Release) []impl.Need {
	firsts := []int{0, 9999999}
	for _, x := range s {
		rank := impl.VersionRank(x.V)
		firsts = append(firsts, max(rank-1, 0), rank, min(rank+1, 9999999))
	}
	slices.Sort(firsts)
	var list []impl.Need
	for _, name := range allNames() {
		list = append(list, need(name, impl.Range{}))
		for _, first := range slices.Compact(firsts) {
			for _, r := range rangesFrom(first) {
				list = append(list, need(name, r))
			}
		}
	}
	return list
}

// longRow is a full shelf on which each release needs the next five, so that there are more ways through it than can be gone one by one. If it is closed, the last ones need the first ones.
func longRow(closed bool) []impl.Release {
	var s []impl.Release
	for name := range 8 {
		for at := name; at < 30; at += 8 {
			x := release(name, major(1+at/8))
			for next := at + 1; next <= at+5; next++ {
				if next < 30 || closed {
					x.Needs = append(x.Needs, fromOn(next%30%8, major(1+next%30/8)))
				}
			}
			slices.SortFunc(x.Needs, func(n impl.Need, m impl.Need) int { return n.Name - m.Name })
			s = append(s, x)
		}
	}
	return s
}

// The way of chapter 8: what comes up is visited once, however many ways lead to it, and even if one leads round in a circle.
func TestVisitedOnce(t *testing.T) {
	for _, closed := range []bool{false, true} {
		s := longRow(closed)
		if !impl.ShelfOk(s) {
			t.Fatalf("ShelfOk(%v) is false", s)
		}
		var all []int
		for place := range s {
			all = append(all, place)
		}
		newest := mustNewest(s, all)
		checkVisited(t, s, needsAny(0), all...)
		checkLeast(t, s, needsAny(0), newest...)
		checkLeast(t, s, needsAny(0, 1, 2, 3, 4), newest...)
		checkVisited(t, s, nil)
	}
	checkVisited(t, longRow(false), []impl.Need{fromOn(5, major(4))}, 23)
	checkVisited(t, longRow(false), []impl.Need{fromOn(4, major(4))}, 19, 23)
	checkLeast(t, longRow(true), []impl.Need{fromOn(5, major(4))}, pick(0, major(4)), pick(1, major(4)), pick(2, major(4)), pick(3, major(4)), pick(4, major(4)), pick(5, major(4)), pick(6, major(3)), pick(7, major(3)))
}

// P75: a need asks for just what truth says it does, wherever its range begins, and whatever is behind that.
func TestLeastOf(t *testing.T) {
	found, none := 0, 0
	d := &dice{state: 75}
	shelves := okShelves()
	for range 60 {
		shelves = append(shelves, risingShelf(d, 1+d.roll(8)))
	}
	for _, s := range shelves {
		for _, n := range needsAround(s) {
			must := mustAsk(s, n)
			checkAsked(t, s, n, must)
			if must < 0 {
				none++
			} else {
				found++
			}
		}
	}
	if found < 20000 || none < 20000 {
		t.Errorf("a release is asked for %d times only, and none %d times", found, none)
	}
}

// P75: what is asked for is of the name, not withdrawn, and not before the first version of the range; and no other one that is fits between. If none is asked for, none fits from there on.
func TestNoReleaseBetween(t *testing.T) {
	d := &dice{state: 750}
	for _, s := range append(okShelves(), risingShelf(d, 8), risingShelf(d, 8), risingShelf(d, 3)) {
		for _, name := range allNames() {
			for _, r := range append(edgeRanges(), rangesFrom(rolledFirst(d))...) {
				checkNoneBetween(t, s, need(name, r), impl.LeastOf(s, need(name, r)))
			}
		}
	}
}

// P75: needs whose answers were found by hand.
func TestKnownLeastOf(t *testing.T) {
	s := []impl.Release{
		release(0, major(1)), release(0, major(3)),
		withdrawn(release(3, major(1))), release(3, major(2)), withdrawn(release(3, major(3))), withdrawn(release(3, major(4))), release(3, major(5)),
		withdrawn(release(5, major(1))),
		release(7, version(1, 0, 0, 1)), release(7, version(1, 0, 0, 9)), release(7, major(1)), release(7, version(1, 0, 1, 0)),
	}
	from := func(name int, v impl.Version) impl.Need { return need(name, impl.RangeFrom(v)) }
	one := func(name int, v impl.Version) impl.Need { return need(name, impl.RangeOne(v)) }
	for _, x := range []struct {
		n    impl.Need
		must int
	}{
		// All versions, and none.
		{needAny(0), 0}, {needAny(3), 3}, {needAny(5), -1}, {needAny(7), 8}, {needAny(1), -1}, {needAny(6), -1},
		{need(0, impl.Range{}), -1}, {need(7, impl.Range{}), -1}, {need(5, impl.Range{}), -1},
		// The first version is a release, is ahead of the first one, between two, or behind the last one.
		{one(0, major(1)), 0}, {one(0, major(3)), 1}, {one(0, version(0, 0, 0, 1)), 0}, {one(0, version(1, 0, 0, 9)), 0},
		{one(0, version(1, 0, 1, 1)), 1}, {one(0, major(2)), 1}, {from(0, major(2)), 1}, {from(0, version(1, 5, 0, 0)), 1},
		{one(0, version(3, 0, 1, 1)), -1}, {from(0, major(4)), -1}, {one(0, version(99, 99, 99, 0)), -1},
		// Further spans do not count, be they hit or missed, nor what the range does not have.
		{need(0, rangeOf(span(200009, 200009), span(500009, 599999))), 1},
		{need(0, rangeOf(span(0, 0), span(300009, 300009))), 0},
		{need(0, rangeOf(span(0, 100008), span(100010, 9999999))), 0},
		{need(0, rangeOf(span(300010, 300010), span(300012, 9999999))), -1},
		// What was withdrawn is passed over, ahead, between, and at the end.
		{one(3, major(1)), 3}, {one(3, major(2)), 3}, {one(3, major(3)), 6}, {one(3, version(2, 0, 1, 1)), 6}, {from(3, major(4)), 6}, {one(3, major(5)), 6}, {from(3, major(6)), -1}, {one(5, major(1)), -1},
		// What goes ahead of a version is before it.
		{one(7, version(1, 0, 0, 1)), 8}, {one(7, version(1, 0, 0, 2)), 9}, {one(7, version(1, 0, 0, 9)), 9}, {one(7, major(1)), 10}, {from(7, major(1)), 10}, {one(7, version(1, 0, 1, 1)), 11}, {one(7, version(1, 0, 1, 0)), 11}, {one(7, version(1, 0, 2, 1)), -1},
	} {
		checkAsked(t, s, x.n, x.must)
		checkAsked(t, nil, x.n, -1)
		checkAsked(t, []impl.Release{}, x.n, -1)
	}
}

// P75 to P77: at the first and the last versions there are, with and without what goes ahead of them.
func TestLeastOfFirstAndLast(t *testing.T) {
	top := impl.VersionTop
	versions := []impl.Version{version(0, 0, 0, 1), version(0, 0, 0, 9), version(0, 0, 0, 0), version(top, top, top, 1), version(top, top, top, 9), version(top, top, top, 0)}
	for _, name := range []int{0, impl.NameTop} {
		var s []impl.Release
		for _, v := range versions {
			s = append(s, release(name, v))
		}
		for at, v := range versions {
			checkAsked(t, s, need(name, impl.RangeOne(v)), at)
			checkLeast(t, s, []impl.Need{need(name, impl.RangeFrom(v))}, pick(name, v))
			checkLeast(t, s, impl.LeastNeeds([]impl.Pick{pick(name, v)}), pick(name, v))
			checkAsked(t, s, need(impl.NameTop-name, impl.RangeOne(v)), -1)
		}
		checkAsked(t, s, needAny(name), 0)
		checkAsked(t, s[1:], needAny(name), 0)
		checkAsked(t, s, need(name, impl.RangeOne(version(0, 0, 0, 2))), 1)
		checkAsked(t, s, need(name, impl.RangeOne(version(0, 0, 1, 1))), 3)
		checkAsked(t, s[:5], need(name, impl.RangeOne(version(top, top, top, 0))), -1)
		checkAsked(t, s[:2], need(name, impl.RangeOne(version(0, 0, 0, 0))), -1)
		gone, _ := impl.ShelfGone(s, name, version(top, top, top, 0))
		checkAsked(t, gone, need(name, impl.RangeOne(version(top, top, top, 0))), -1)
		gone, _ = impl.ShelfGone(s, name, version(0, 0, 0, 1))
		checkAsked(t, gone, needAny(name), 1)
	}
}

// P76: just what must come up does, in order.
func TestLeastVisit(t *testing.T) {
	told, none, several := 0, 0, 0
	for _, q := range leastQuestions() {
		must, ok := mustVisit(q.s, q.needs)
		if !ok {
			none++
			checkNoLeast(t, q.s, q.needs)
			continue
		}
		checkVisited(t, q.s, q.needs, must...)
		if len(q.needs) > 0 {
			told++
		}
		if len(must) > len(mustNewest(q.s, must)) {
			several++
		}
	}
	if told < 1500 || none < 1500 || several < 300 {
		t.Errorf("it is told %d times only, and not %d times, with several releases of a name %d times", told, none, several)
	}
}

// P76: what comes up asks for what comes up, which alone would have come up for it; and nothing of it hangs on the other releases, be they withdrawn or not there.
func TestVisitedAlone(t *testing.T) {
	for _, q := range leastQuestions() {
		places, ok := impl.LeastVisit(q.s, q.needs)
		if !ok {
			continue
		}
		var alone []impl.Release
		gone := slices.Clone(q.s)
		for place, x := range q.s {
			if !slices.Contains(places, place) {
				gone[place].Gone = true
				continue
			}
			alone = append(alone, x)
			inner, ok := impl.LeastVisit(q.s, x.Needs)
			if !ok {
				t.Fatalf("LeastVisit(%v, %v) is %v, and %v asks for none", q.s, q.needs, places, x)
			}
			for _, at := range inner {
				if !slices.Contains(places, at) {
					t.Fatalf("LeastVisit(%v, %v) is %v, and %v asks for %d", q.s, q.needs, places, x, at)
				}
			}
			for _, n := range x.Needs {
				if !slices.Contains(inner, impl.LeastOf(q.s, n)) {
					t.Fatalf("LeastVisit(%v, %v) is %v", q.s, x.Needs, inner)
				}
			}
		}
		checkVisited(t, gone, q.needs, places...)
		c, _ := impl.Least(q.s, q.needs)
		checkLeast(t, alone, q.needs, c...)
		if came, ok := impl.LeastVisit(alone, q.needs); !ok || len(came) != len(alone) {
			t.Fatalf("of %v comes up for %v not all but %v", alone, q.needs, came)
		}
	}
}

// P76: with no needs nothing comes up, and with no releases nothing else is told.
func TestNothingVisited(t *testing.T) {
	for _, s := range okShelves() {
		checkVisited(t, s, nil)
		checkVisited(t, s, []impl.Need{})
		checkLeast(t, s, nil)
		checkLeast(t, s, []impl.Need{})
	}
	for name := range 8 {
		for _, r := range append(edgeRanges(), impl.RangeAll(), impl.Range{}) {
			checkNoLeast(t, nil, []impl.Need{need(name, r)})
			checkNoLeast(t, []impl.Release{}, []impl.Need{need(name, r)})
		}
	}
}

// P9 and P76: shelves of which it was told by hand what comes up.
func TestKnownLeast(t *testing.T) {
	s := []impl.Release{
		release(0, major(1), fromOn(1, major(2))), release(0, major(2)), release(0, major(3), needAny(6)),
		release(1, major(1)), release(1, major(2)), release(1, major(3), needAny(4)),
		release(2, major(1), fromOn(0, major(2))),
		release(3, major(1), need(1, impl.Range{})), release(3, major(2), needAny(5)),
	}
	one, two, three := major(1), major(2), major(3)
	checkLeast(t, s, needsAny(0), pick(0, one), pick(1, two))
	checkLeast(t, s, needsAny(1), pick(1, one))
	checkLeast(t, s, needsAny(0, 1), pick(0, one), pick(1, two))
	checkVisited(t, s, needsAny(0, 1), 0, 3, 4)
	checkLeast(t, s, []impl.Need{need(0, impl.RangeOne(two))}, pick(0, two))
	// What an older release asks for comes up, though a newer one of its name is picked that does not need it.
	checkLeast(t, s, needsAny(0, 2), pick(0, two), pick(1, two), pick(2, one))
	checkVisited(t, s, needsAny(0, 2), 0, 1, 4, 6)
	checkLeast(t, s, needsAny(2), pick(0, two), pick(2, one))
	// So it does if it is asked for behind the newer one.
	behind := with(s, 7, release(2, two, needAny(0)))
	checkLeast(t, behind, []impl.Need{fromOn(0, two), fromOn(2, two)}, pick(0, two), pick(1, two), pick(2, two))
	// A need that asks for none, at the front or behind others, is too much.
	checkNoLeast(t, s, needsAny(3))
	checkNoLeast(t, s, []impl.Need{fromOn(3, two)})
	checkNoLeast(t, s, needsAny(0, 3))
	checkNoLeast(t, s, needsAny(4))
	checkNoLeast(t, s, needsAny(0, 1, 2, 7))
	checkNoLeast(t, s, []impl.Need{need(0, impl.Range{})})
	checkNoLeast(t, s, []impl.Need{needAny(0), need(1, impl.Range{})})
	checkNoLeast(t, s, []impl.Need{fromOn(0, three)})
	checkNoLeast(t, s, []impl.Need{fromOn(1, three)})
	// The end of a range does not count: what is asked for may be newer.
	checkLeast(t, s[:5], []impl.Need{need(0, impl.RangeOne(version(1, 0, 1, 0)))}, pick(0, two))
	checkLeast(t, s[:5], []impl.Need{need(0, rangeOf(span(0, 0), span(200009, 200009)))}, pick(0, one), pick(1, two))
	// What was withdrawn is passed over, with what it needs.
	gone, _ := impl.ShelfGone(s, 0, one)
	checkLeast(t, gone, needsAny(0), pick(0, two))
	gone, _ = impl.ShelfGone(gone, 0, two)
	checkNoLeast(t, gone, needsAny(0))
	gone, _ = impl.ShelfGone(s, 1, two)
	checkNoLeast(t, gone, needsAny(0))
	checkLeast(t, gone, needsAny(1), pick(1, one))
}

// P9 and P76: releases that need each other come up together, also where needs round the circle ask for newer and newer ones, until these ask for what is there.
func TestCircleVisited(t *testing.T) {
	for _, name := range []int{0, 3, 7} {
		checkVisited(t, circle(), needsAny(name), 0, 1, 2)
		checkLeast(t, circle(), needsAny(name), picks(0, 3, 7)...)
		for _, gone := range []int{0, 3, 7} {
			open, _ := impl.ShelfGone(circle(), gone, major(1))
			checkNoLeast(t, open, needsAny(name))
		}
	}
	var spiral []impl.Release
	for v := 1; v <= 15; v++ {
		spiral = append(spiral, release(2, major(v), fromOn(5, major(v))))
	}
	for v := 1; v <= 15; v++ {
		spiral = append(spiral, release(5, major(v), fromOn(2, major(v+1))))
	}
	checkNoLeast(t, spiral, needsAny(2))
	checkNoLeast(t, spiral, needsAny(5))
	spiral[29].Needs = []impl.Need{fromOn(2, major(9))}
	checkLeast(t, spiral, needsAny(2), pick(2, major(15)), pick(5, major(15)))
	checkLeast(t, spiral, needsAny(5), pick(2, major(15)), pick(5, major(15)))
	checkLeast(t, spiral, []impl.Need{fromOn(2, major(12))}, pick(2, major(15)), pick(5, major(15)))
	checkVisited(t, spiral, []impl.Need{fromOn(5, major(15))}, 8, 9, 10, 11, 12, 13, 14, 23, 24, 25, 26, 27, 28, 29)
}

// P76: a need that asks for none is found at the end of a row through all names, in whichever direction they lead, and nothing is told then.
func TestNoneDeepBehind(t *testing.T) {
	var up, down []impl.Release
	for name := range 8 {
		var next, last []impl.Need
		if name < 7 {
			next = needsAny(name + 1)
		}
		if name > 0 {
			last = needsAny(name - 1)
		}
		up = append(up, release(name, major(1), next...))
		down = append(down, release(name, major(1), last...))
	}
	checkLeast(t, up, needsAny(0), picks(0, 1, 2, 3, 4, 5, 6, 7)...)
	checkLeast(t, down, needsAny(7), picks(0, 1, 2, 3, 4, 5, 6, 7)...)
	for at := range 8 {
		openUp, _ := impl.ShelfGone(up, at, major(1))
		checkNoLeast(t, openUp, needsAny(0))
		checkNoLeast(t, without(up, at), needsAny(0))
		openDown, _ := impl.ShelfGone(down, at, major(1))
		checkNoLeast(t, openDown, needsAny(7))
		checkNoLeast(t, without(down, at), needsAny(7))
	}
	for _, none := range []impl.Need{need(3, impl.Range{}), fromOn(3, major(2)), need(0, impl.RangeOne(version(1, 0, 1, 1)))} {
		up[7].Needs = []impl.Need{none}
		checkNoLeast(t, up, needsAny(0))
		checkNoLeast(t, up, needsAny(7))
		checkNoLeast(t, up, needsAny(2, 5))
	}
	up[7].Needs = []impl.Need{needAny(0), fromOn(3, major(1))}
	checkLeast(t, up, needsAny(5), picks(0, 1, 2, 3, 4, 5, 6, 7)...)
}

// P9: of each name of which releases come up the newest one is picked, and nothing else.
func TestLeast(t *testing.T) {
	told := 0
	for _, q := range leastQuestions() {
		places, ok := mustVisit(q.s, q.needs)
		if !ok {
			checkNoLeast(t, q.s, q.needs)
			continue
		}
		checkLeast(t, q.s, q.needs, mustNewest(q.s, places)...)
		told++
	}
	if told < 2000 {
		t.Errorf("it is told %d times only", told)
	}
}

// P9: what is picked is enough for each need and for all that is picked, is there and not withdrawn, and each pick is asked for as it is, by a need or one of what comes up.
func TestLeastIsEnough(t *testing.T) {
	for _, q := range leastQuestions() {
		c, ok := impl.Least(q.s, q.needs)
		if !ok {
			continue
		}
		if !impl.PicksOk(c) {
			t.Fatalf("Least(%v, %v) is %v, which is none", q.s, q.needs, c)
		}
		checkEnough(t, q, q.needs, c)
		places, _ := impl.LeastVisit(q.s, q.needs)
		asks := slices.Clone(q.needs)
		for _, place := range places {
			asks = append(asks, q.s[place].Needs...)
		}
		for _, p := range c {
			place := impl.ShelfAt(q.s, p.Name, p.V)
			if place < 0 || q.s[place].Gone {
				t.Fatalf("Least(%v, %v) is %v, and %v is not there", q.s, q.needs, c, p)
			}
			checkEnough(t, q, q.s[place].Needs, c)
			if !slices.ContainsFunc(asks, func(n impl.Need) bool { return impl.LeastOf(q.s, n) == place }) {
				t.Fatalf("Least(%v, %v) is %v, and nobody asks for %v", q.s, q.needs, c, p)
			}
		}
	}
}

// withoutEnds are needs whose ranges go on from their first versions for ever.
func withoutEnds(needs []impl.Need) []impl.Need {
	list := slices.Clone(needs)
	for i, n := range list {
		if len(n.R.Spans) > 0 {
			list[i].R = rangeOf(span(n.R.Spans[0].Low, 9999999))
		}
	}
	return list
}

// P9: where no range ends, what is picked and needed is a choice in which nothing is wrong, so that one is found, too.
func TestLeastIsChoice(t *testing.T) {
	told := 0
	for _, q := range leastQuestions() {
		s, needs := slices.Clone(q.s), withoutEnds(q.needs)
		for i, x := range s {
			s[i].Needs = withoutEnds(x.Needs)
		}
		must, has := impl.Least(q.s, q.needs)
		c, ok := impl.Least(s, needs)
		if ok != has || !slices.Equal(c, must) {
			t.Fatalf("Least(%v, %v) hangs on the ends of ranges: it is %v, and without them %v", q.s, q.needs, must, c)
		}
		if !ok {
			continue
		}
		c = impl.ChoiceTrim(s, needs, c)
		if fault := impl.ChoiceFault(s, needs, nil, c); fault != impl.FaultFine {
			t.Fatalf("%v is no choice of %v for %v: %d", c, s, needs, fault)
		}
		if best, ok := impl.Solve(s, needs, nil); !ok || impl.ChoiceBetter(c, best) {
			t.Fatalf("Solve(%v, %v, nil) is %v, %v, and %v is a choice", s, needs, best, ok, c)
		}
		told++
	}
	if told < 1500 {
		t.Errorf("it is told %d times only", told)
	}
}

// P10: with one need more, of any name that is not needed yet, no pick is older, and none is missing.
func TestOneNeedMore(t *testing.T) {
	d := &dice{state: 10}
	more, newer := 0, 0
	for _, q := range leastQuestions() {
		was, ok := impl.Least(q.s, q.needs)
		if !ok || len(q.needs) == 5 {
			continue
		}
		for _, name := range allNames() {
			at, there := slices.BinarySearchFunc(q.needs, name, func(n impl.Need, name int) int { return n.Name - name })
			ranges := append(rangesFrom(rolledFirst(d)), impl.RangeAll())
			if there {
				continue
			}
			now, ok := impl.Least(q.s, with(q.needs, at, need(name, ranges[d.roll(len(ranges))])))
			if !ok {
				continue
			}
			checkNotOlder(t, was, now)
			more++
			if slices.ContainsFunc(was, func(p impl.Pick) bool { return !slices.Contains(now, p) }) {
				newer++
			}
		}
	}
	if more < 5000 || newer < 500 {
		t.Errorf("there is one need more %d times only, and a pick is newer %d times", more, newer)
	}
}

// P10: however needs are put into halves, it is told what comes of all if it is of both halves, and it is the newer one of both. A need may be in both halves.
func TestNeedsInHalves(t *testing.T) {
	halves, differ := 0, 0
	for _, q := range leastQuestions() {
		c, ok := impl.Least(q.s, q.needs)
		for mask := range 1 << len(q.needs) {
			var first, second []impl.Need
			for i, n := range q.needs {
				if mask>>i&1 == 1 {
					first = append(first, n)
				}
				if mask>>i&1 == 0 || i%3 == 2 {
					second = append(second, n)
				}
			}
			a, okA := impl.Least(q.s, first)
			b, okB := impl.Least(q.s, second)
			if ok != (okA && okB) || ok && !slices.Equal(c, mustBoth(a, b)) {
				t.Fatalf("Least(%v, %v) is %v, %v, and of its halves %v, %v and %v, %v", q.s, q.needs, c, ok, a, okA, b, okB)
			}
			if ok {
				halves++
			}
			if ok && !slices.Equal(c, a) && !slices.Equal(c, b) {
				differ++
			}
		}
	}
	if halves < 5000 || differ < 1500 {
		t.Errorf("there are halves %d times only, that are less than all %d times", halves, differ)
	}
}

// P10: halves by hand, where one half has the newer version of one name, and the other one of another.
func TestKnownHalves(t *testing.T) {
	one, two, three := major(1), major(2), major(3)
	s := []impl.Release{
		release(0, one, fromOn(3, two), needAny(4)), release(1, one, needAny(3), fromOn(4, three)),
		release(3, one), release(3, two), release(3, three), release(4, one), release(4, two), release(4, three),
	}
	checkLeast(t, s, needsAny(0), pick(0, one), pick(3, two), pick(4, one))
	checkLeast(t, s, needsAny(1), pick(1, one), pick(3, one), pick(4, three))
	checkLeast(t, s, needsAny(0, 1), pick(0, one), pick(1, one), pick(3, two), pick(4, three))
	checkLeast(t, s, []impl.Need{needAny(0), needAny(1), fromOn(3, three)}, pick(0, one), pick(1, one), pick(3, three), pick(4, three))
	checkNoLeast(t, s, needsAny(0, 1, 7))
}

// P77: needs of picks as they are, told by hand.
func TestKnownLeastNeeds(t *testing.T) {
	for _, x := range []struct {
		c    []impl.Pick
		must []impl.Need
	}{
		{nil, nil},
		{[]impl.Pick{}, nil},
		{picks(0), []impl.Need{need(0, rangeOf(span(100009, 9999999)))}},
		{[]impl.Pick{pick(7, version(0, 0, 0, 1))}, needsAny(7)},
		{[]impl.Pick{pick(7, version(0, 0, 0, 0))}, []impl.Need{need(7, rangeOf(span(9, 9999999)))}},
		{[]impl.Pick{pick(0, version(99, 99, 99, 9)), pick(3, version(99, 99, 99, 0))}, []impl.Need{need(0, rangeOf(span(9999998, 9999999))), need(3, rangeOf(span(9999999, 9999999)))}},
		{[]impl.Pick{pick(2, version(1, 2, 3, 4)), pick(4, version(0, 1, 0, 0))}, []impl.Need{need(2, rangeOf(span(102033, 9999999))), need(4, rangeOf(span(1009, 9999999)))}},
		{[]impl.Pick{pick(1, major(5)), pick(2, major(4)), pick(3, major(3)), pick(4, major(2)), pick(5, major(1)), pick(6, major(9)), pick(7, major(8))},
			[]impl.Need{need(1, rangeOf(span(500009, 9999999))), need(2, rangeOf(span(400009, 9999999))), need(3, rangeOf(span(300009, 9999999))), need(4, rangeOf(span(200009, 9999999))), need(5, rangeOf(span(100009, 9999999)))}},
	} {
		if needs := impl.LeastNeeds(x.c); !same(needs, x.must) {
			t.Errorf("LeastNeeds(%v) is %v, not %v", x.c, needs, x.must)
		}
	}
}

// P77: the needs of picks are needs, of the first five of them, and of all versions that are not before.
func TestLeastNeeds(t *testing.T) {
	for _, c := range okPicks() {
		var must []impl.Need
		for _, p := range c[:min(len(c), 5)] {
			must = append(must, fromOn(p.Name, p.V))
		}
		needs := impl.LeastNeeds(c)
		if !same(needs, must) || !impl.NeedsOk(needs) {
			t.Fatalf("LeastNeeds(%v) is %v, not %v", c, needs, must)
		}
		for i, n := range needs {
			for _, x := range knownVersions() {
				if impl.RangeHas(n.R, x.v) == mustLess(x.v, c[i].V) {
					t.Fatalf("LeastNeeds(%v) is %v, which is wrong for %s", c, needs, x.text)
				}
			}
		}
	}
	for many, c := range [][]impl.Pick{nil, picks(3), picks(3, 4), picks(0, 1, 2), picks(0, 1, 2, 7), picks(3, 4, 5, 6, 7), picks(2, 3, 4, 5, 6, 7), picks(0, 1, 3, 4, 5, 6, 7), picks(0, 1, 2, 3, 4, 5, 6, 7)} {
		if needs := impl.LeastNeeds(c); len(needs) != min(many, impl.NeedMost) {
			t.Errorf("LeastNeeds(%v) is %v", c, needs)
		}
	}
}

// P77: what is there is asked for as it is, and picked as it is, or newer; what is not there, or was withdrawn, is picked newer, or nothing is told.
func TestPickedAsAsked(t *testing.T) {
	d := &dice{state: 77}
	kept, newer, none := 0, 0, 0
	for _, q := range leastQuestions() {
		c := rolledPicks(d, q.s)
		needs := impl.LeastNeeds(c)
		for i, n := range needs {
			place := placeOf(q.s, c[i])
			if place >= 0 && !q.s[place].Gone {
				checkAsked(t, q.s, n, place)
			}
		}
		now, ok := impl.Least(q.s, needs)
		if !ok {
			none++
			continue
		}
		checkNotOlder(t, c[:len(needs)], now)
		for _, p := range c[:len(needs)] {
			if slices.Contains(now, p) {
				kept++
			} else {
				newer++
			}
		}
	}
	if kept < 3000 || newer < 300 || none < 500 {
		t.Errorf("picks are picked as they are %d times only, and newer %d times, and nothing is told %d times", kept, newer, none)
	}
}

// P77: what least versions came to is picked again if it is asked for as it is, the first five of it at least.
func TestLeastAgain(t *testing.T) {
	whole, part := 0, 0
	for _, q := range leastQuestions() {
		c, ok := impl.Least(q.s, q.needs)
		if !ok {
			continue
		}
		again, ok := impl.Least(q.s, impl.LeastNeeds(c))
		if !ok {
			t.Fatalf("Least(%v, %v) is %v, and nothing if that is asked for", q.s, q.needs, c)
		}
		for _, p := range c[:min(len(c), 5)] {
			if !slices.Contains(again, p) {
				t.Fatalf("Least(%v, %v) is %v, and then %v", q.s, q.needs, c, again)
			}
		}
		checkNotOlder(t, again, c)
		if len(c) <= 5 {
			checkLeast(t, q.s, impl.LeastNeeds(c), c...)
			whole++
		} else {
			part++
		}
	}
	if whole < 1500 || part < 100 {
		t.Errorf("few picks are asked for %d times only, and many %d times", whole, part)
	}
}

// P77: of more picks than there can be needs the last ones are not asked for, and are picked only if others need them.
func TestMorePicksThanNeeds(t *testing.T) {
	var s []impl.Release
	for name := range 8 {
		s = append(s, release(name, major(1)), release(name, major(2)))
	}
	var c []impl.Pick
	for name := range 8 {
		c = append(c, pick(name, major(2)))
	}
	checkLeast(t, s, impl.LeastNeeds(c), c[:5]...)
	checkLeast(t, s, impl.LeastNeeds(c[2:]), c[2:7]...)
	checkLeast(t, s, impl.LeastNeeds(c[3:]), c[3:]...)
	s[1].Needs = needsAny(6)
	checkLeast(t, s, impl.LeastNeeds(c), append(slices.Clone(c[:5]), pick(6, major(1)))...)
	gone, _ := impl.ShelfGone(s, 7, major(2))
	checkLeast(t, gone, impl.LeastNeeds(c), append(slices.Clone(c[:5]), pick(6, major(1)))...)
	gone, _ = impl.ShelfGone(s, 4, major(2))
	checkNoLeast(t, gone, impl.LeastNeeds(c))
}

// P77: a pick that was withdrawn, or is not there, is asked for in a newer version.
func TestNewerThanAsked(t *testing.T) {
	s := []impl.Release{release(2, major(1)), withdrawn(release(2, major(2))), release(2, major(4)), release(6, major(1))}
	for _, x := range []struct{ asked, must int }{{0, 1}, {1, 1}, {2, 4}, {3, 4}, {4, 4}} {
		checkLeast(t, s, impl.LeastNeeds([]impl.Pick{pick(2, major(x.asked))}), pick(2, major(x.must)))
	}
	checkNoLeast(t, s, impl.LeastNeeds([]impl.Pick{pick(2, major(5))}))
	checkNoLeast(t, s, impl.LeastNeeds([]impl.Pick{pick(2, version(4, 0, 1, 1))}))
	checkNoLeast(t, s, impl.LeastNeeds([]impl.Pick{pick(2, major(1)), pick(5, major(1))}))
}

// P9, P10 and P75 to P77: with no shelf, or no needs, nothing is asked for, even where nothing would have to be; and what is no picks has no needs.
func TestNoLeast(t *testing.T) {
	for _, s := range notShelves() {
		for _, needs := range [][]impl.Need{nil, needsAny(s[0].Name & 7), needsAny(0, 1, 3, 6, 7)} {
			checkNoLeast(t, s, needs)
			for _, n := range needs {
				checkAsked(t, s, n, -1)
			}
		}
	}
	full := fullShelf(4)
	for _, needs := range notNeeds() {
		for _, s := range [][]impl.Release{nil, circle(), full} {
			checkNoLeast(t, s, needs)
		}
	}
	for _, s := range append(okShelves(), longRow(true)) {
		for _, name := range append(oddNames(), -2, 9, 15, 16) {
			checkAsked(t, s, needAny(name), -1)
			checkAsked(t, s, need(name, impl.Range{}), -1)
			checkNoLeast(t, s, needsAny(name))
		}
		for _, none := range notRanges() {
			for name := range 8 {
				checkAsked(t, s, need(name, none), -1)
				checkNoLeast(t, s, []impl.Need{need(name, none)})
			}
		}
	}
	for _, none := range notPicks() {
		if needs := impl.LeastNeeds(none); len(needs) != 0 {
			t.Errorf("LeastNeeds(%v) is %v", none, needs)
		}
	}
}

// P9, P10 and P75 to P77: what is handed in is left as it was, and what is handed out shares no memory with it.
func TestLeastSharesNothing(t *testing.T) {
	list := append(risingQuestions(1000, 400), smallShelves(100)...)
	list = append(list, question{s: longRow(true), needs: needsAny(0)}, question{s: fullShelf(4), needs: needsAny(0, 1, 2, 3, 4)}, question{})
	for i := range list {
		d := &dice{state: uint64(i)}
		list[i].c = rolledPicks(d, list[i].s)
	}
	for _, c := range okPicks()[:40] {
		list = append(list, question{s: circle(), needs: needsAny(0, 3), c: c})
	}
	for _, s := range notShelves()[:20] {
		list = append(list, question{s: s, needs: needsAny(0, 1), c: picks(1)})
	}
	for _, needs := range notNeeds() {
		list = append(list, question{s: circle(), needs: needs, c: picks(0, 1, 2, 3, 4, 5, 6)})
	}
	for _, none := range notPicks()[:30] {
		list = append(list, question{s: circle(), needs: needsAny(0, 3), c: none})
	}
	for _, old := range list {
		s, needs, c := handed(old.s), handed(old.needs), handed(old.c)
		was := wholeText(s, needs, c)
		for _, n := range needs {
			impl.LeastOf(s, n)
		}
		places, _ := impl.LeastVisit(s, needs)
		placesAgain, _ := impl.LeastVisit(s, needs)
		least, _ := impl.Least(s, needs)
		leastAgain, _ := impl.Least(s, needs)
		asks, asksAgain := impl.LeastNeeds(c), impl.LeastNeeds(c)
		if !same(places, placesAgain) || !same(least, leastAgain) || !same(asks, asksAgain) {
			t.Fatalf("asked again of %v, %v and %v it is not the same", s, needs, c)
		}
		checkMemory(t, "least versions", was, []any{s, needs, c}, []any{places, placesAgain, least, leastAgain, asks, asksAgain})
	}
}
