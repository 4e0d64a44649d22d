package tests

import (
	"math"
	"slices"
	"testing"

	"loop.example/packageworld/impl"
)

func pick(name int, v impl.Version) impl.Pick {
	return impl.Pick{Name: name, V: v}
}

// picks are picks of names, all in the version 1.0.0.
func picks(names ...int) []impl.Pick {
	var c []impl.Pick
	for _, name := range names {
		c = append(c, pick(name, major(1)))
	}
	return c
}

// okPicks are picks at all bounds, and in all sets of names.
func okPicks() [][]impl.Pick {
	list := [][]impl.Pick{
		nil, {}, picks(0), picks(7), picks(0, 7), picks(0, 1, 2, 3, 4, 5, 6, 7),
		{pick(0, major(9)), pick(1, version(0, 0, 0, 1)), pick(7, major(3))},
		{pick(2, version(1, 0, 0, 9)), pick(3, version(1, 0, 0, 8)), pick(4, version(1, 0, 0, 7))},
	}
	for _, v := range edgeVersions() {
		list = append(list, []impl.Pick{pick(3, v)}, []impl.Pick{pick(0, v), pick(7, v)})
	}
	for mask := 0; mask < 1<<8; mask++ {
		var c []impl.Pick
		for name := 0; name < 8; name++ {
			if mask>>name&1 == 1 {
				c = append(c, pick(name, major(name*mask%4)))
			}
		}
		list = append(list, c)
	}
	return list
}

// notPicks are rows that are no picks, however right their parts may be.
func notPicks() [][]impl.Pick {
	list := [][]impl.Pick{
		picks(-1), picks(8), picks(math.MinInt), picks(math.MaxInt), picks(-1, 0), picks(7, 8), picks(0, math.MaxInt), picks(math.MinInt, 0),
		picks(1, 0), picks(7, 0), picks(0, 2, 1), picks(1, 2, 0), picks(7, 6, 5, 4, 3, 2, 1, 0),
		picks(0, 0), picks(7, 7), picks(1, 1, 2), picks(1, 2, 2), picks(0, 1, 0), picks(0, 1, 2, 3, 4, 5, 6, 7, 7), picks(0, 0, 1, 2, 3, 4, 5, 6, 7),
		{pick(1, major(1)), pick(1, major(2))}, {pick(1, major(2)), pick(1, major(1))},
	}
	for _, v := range notVersions() {
		list = append(list, []impl.Pick{pick(3, v)}, []impl.Pick{pick(0, v), pick(3, major(1))}, []impl.Pick{pick(0, major(1)), pick(1, major(1)), pick(7, v)})
	}
	return list
}

// choicesOf are all rows of picks that are on a shelf, withdrawn or not.
func choicesOf(s []impl.Release) [][]impl.Pick {
	all := [][]impl.Pick{nil}
	for name := 0; name < 8; name++ {
		for _, c := range all {
			for _, x := range s {
				if x.Name == name {
					all = append(all, with(c, len(c), pick(name, x.V)))
				}
			}
		}
	}
	return all
}

// rolledPicks are picks of few or many of the releases of a shelf, and now and then of one that it does not have.
func rolledPicks(d *dice, s []impl.Release) []impl.Pick {
	var c []impl.Pick
	often := 2 + d.roll(4)
	for name := 0; name <= 7; name++ {
		versions := []impl.Version{}
		for _, x := range s {
			if x.Name == name {
				versions = append(versions, x.V)
			}
		}
		if d.roll(30) == 0 {
			versions = append(versions, version(7, 7, 7, 0))
		}
		if len(versions) > 0 && d.roll(often) > 0 {
			c = append(c, pick(name, versions[d.roll(len(versions))]))
		}
	}
	return c
}

// question is what a choice is asked of.
type question struct {
	s     []impl.Release
	needs []impl.Need
	held  []impl.Pick
	c     []impl.Pick
}

// kindNeeds are needs that a shelf of the names below one may well meet, and not of one.
func kindNeeds(d *dice, names int, not int) []impl.Need {
	var list []impl.Need
	for name := 0; name < names; name++ {
		if name != not && len(list) < 5 && d.roll(3) == 0 {
			r := impl.RangeAll()
			if d.roll(2) == 0 {
				r = rolledRange(d)
			}
			list = append(list, need(name, r))
		}
	}
	return list
}

// kindShelf is a shelf of names below one, of which many choices are fine.
func kindShelf(d *dice, names int) []impl.Release {
	s := rolledShelf(d, names)
	for i, x := range s {
		s[i].Needs = kindNeeds(d, names, x.Name)
		s[i].Gone = d.roll(4) == 0
	}
	return s
}

// smallQuestions are all choices of small shelves, with needs and held picks that are rolled.
func smallQuestions() []question {
	d := &dice{state: 60}
	var list []question
	for i := 0; i < 400; i++ {
		names := 1 + i%4
		s := kindShelf(d, names)
		needs := kindNeeds(d, names, -1)
		for _, c := range choicesOf(s) {
			held := rolledPicks(d, s)
			if d.roll(3) == 0 {
				held = c
			}
			list = append(list, question{s, needs, held, c})
		}
	}
	return list
}

// rolledQuestions are of shelves of all names, or of many versions of few.
func rolledQuestions() []question {
	d := &dice{state: 59}
	var list []question
	for _, s := range append(okShelves(), rolledShelves(160)...) {
		for i := 0; i < 12; i++ {
			list = append(list, question{s, rolledNeeds(d, 5, -1), rolledPicks(d, s), rolledPicks(d, s)})
		}
	}
	return list
}

func allQuestions() []question {
	return append(smallQuestions(), rolledQuestions()...)
}

func placeOf(s []impl.Release, p impl.Pick) int {
	return slices.IndexFunc(s, func(x impl.Release) bool { return x.Name == p.Name && x.V == p.V })
}

// mustReach tells without impl which picks are needed, round by round until no further one is.
func mustReach(s []impl.Release, needs []impl.Need, c []impl.Pick) []int {
	needed := map[int]bool{}
	for _, n := range needs {
		needed[n.Name] = true
	}
	for round := 0; round < 8; round++ {
		for _, p := range c {
			if i := placeOf(s, p); i >= 0 && needed[p.Name] {
				for _, n := range s[i].Needs {
					needed[n.Name] = true
				}
			}
		}
	}
	var names []int
	for _, p := range c {
		if needed[p.Name] {
			names = append(names, p.Name)
		}
	}
	return names
}

// mustMeet tells without impl whether picks meet needs.
func mustMeet(needs []impl.Need, c []impl.Pick) bool {
	for _, n := range needs {
		if !slices.ContainsFunc(c, func(p impl.Pick) bool { return p.Name == n.Name && mustHave(n.R, impl.VersionRank(p.V)) }) {
			return false
		}
	}
	return true
}

// mustFault tells without impl what is wrong first, where each of the four is right by itself.
func mustFault(q question) int {
	absent, gone := false, false
	var inner []impl.Need
	for _, p := range q.c {
		i := placeOf(q.s, p)
		if i < 0 {
			absent = true
			continue
		}
		gone = gone || q.s[i].Gone && !slices.Contains(q.held, p)
		inner = append(inner, q.s[i].Needs...)
	}
	switch {
	case absent:
		return 2
	case gone:
		return 3
	case !mustMeet(q.needs, q.c):
		return 4
	case !mustMeet(inner, q.c):
		return 5
	case len(mustReach(q.s, q.needs, q.c)) < len(q.c):
		return 6
	}
	return 0
}

// mustBetter tells without impl which picks are better: of each name the rank counts, and none is more than all.
func mustBetter(a []impl.Pick, b []impl.Pick) bool {
	var ranks [2][8]int
	for i, c := range [][]impl.Pick{a, b} {
		for name := range ranks[i] {
			ranks[i][name] = math.MaxInt
		}
		for _, p := range c {
			ranks[i][p.Name] = impl.VersionRank(p.V)
		}
	}
	return slices.Compare(ranks[0][:], ranks[1][:]) > 0
}

func namesOf(c []impl.Pick) []int {
	var names []int
	for _, p := range c {
		names = append(names, p.Name)
	}
	return names
}

func checkFault(t *testing.T, q question, must int) {
	t.Helper()
	if fault := impl.ChoiceFault(q.s, q.needs, q.held, q.c); fault != must {
		t.Fatalf("ChoiceFault(%v, %v, %v, %v) is %d, not %d", q.s, q.needs, q.held, q.c, fault, must)
	}
}

func checkReach(t *testing.T, s []impl.Release, needs []impl.Need, c []impl.Pick, must ...int) {
	t.Helper()
	names := impl.ChoiceReach(s, needs, c)
	if !slices.Equal(names, must) {
		t.Fatalf("ChoiceReach(%v, %v, %v) is %v, not %v", s, needs, c, names, must)
	}
	var left []impl.Pick
	for _, p := range c {
		if slices.Contains(must, p.Name) {
			left = append(left, p)
		}
	}
	if trimmed := impl.ChoiceTrim(s, needs, c); !slices.Equal(trimmed, left) {
		t.Fatalf("ChoiceTrim(%v, %v, %v) is %v, not %v", s, needs, c, trimmed, left)
	}
}

// checkNotReached holds that of what is none nothing is told to be needed.
func checkNotReached(t *testing.T, s []impl.Release, needs []impl.Need, c []impl.Pick) {
	t.Helper()
	if names := impl.ChoiceReach(s, needs, c); len(names) != 0 {
		t.Fatalf("ChoiceReach(%v, %v, %v) is %v", s, needs, c, names)
	}
	if left := impl.ChoiceTrim(s, needs, c); len(left) != 0 {
		t.Fatalf("ChoiceTrim(%v, %v, %v) is %v", s, needs, c, left)
	}
}

// The way of chapter 4: a choice is a row of picks in order. This does not compile if it is anything else.
func TestChoiceIsPicks(t *testing.T) {
	type fields struct {
		Name int
		V    impl.Version
	}
	s := []impl.Release{release(1, major(2))}
	var c []impl.Pick = impl.ChoiceTrim(s, needsAny(1), []impl.Pick{pick(1, major(2))})
	if p := fields(c[0]); p.Name != 1 || p.V != major(2) {
		t.Error("a choice is not its picks")
	}
}

func TestChoiceConstants(t *testing.T) {
	told := []int{impl.FaultFine, impl.FaultBad, impl.FaultAbsent, impl.FaultGone, impl.FaultNeed, impl.FaultInner, impl.FaultIdle}
	if !slices.Equal(told, []int{0, 1, 2, 3, 4, 5, 6}) {
		t.Error(told)
	}
}

// P57: no picks are fine, and so are picks in order, of all sets of names.
func TestPicks(t *testing.T) {
	for _, c := range okPicks() {
		if !impl.PicksOk(c) {
			t.Errorf("PicksOk(%v) is false", c)
		}
	}
	checkFault(t, question{}, impl.FaultFine)
	checkFault(t, question{s: fullShelf(4)}, impl.FaultFine)
}

// P57: of all rows of few names those are picks that are in order.
func TestPicksOfAllNames(t *testing.T) {
	for _, names := range rows([]int{-1, 0, 1, 2, 6, 7, 8}, 4) {
		if impl.PicksOk(picks(names...)) != inOrder(names) {
			t.Errorf("PicksOk of the names %v is %v", names, !inOrder(names))
		}
	}
}

// P57: picks that stand twice are none, whichever of them, wherever, and in whichever version.
func TestPicksTwice(t *testing.T) {
	for _, c := range okPicks() {
		for _, p := range c {
			for _, v := range []impl.Version{p.V, version(0, 0, 0, 1), version(99, 99, 99, 0)} {
				for at := 0; at <= len(c); at++ {
					if twice := with(c, at, pick(p.Name, v)); impl.PicksOk(twice) {
						t.Fatalf("PicksOk(%v) is true", twice)
					}
				}
			}
		}
	}
}

// P57 to P62: what are no picks is refused by all.
func TestNoPicks(t *testing.T) {
	s := fullShelf(4)
	needs := needsAny(0, 1, 3, 7)
	for _, none := range notPicks() {
		if impl.PicksOk(none) {
			t.Fatalf("PicksOk(%v) is true", none)
		}
		for _, name := range append(edgeNames(), namesOf(none)...) {
			if v, ok := impl.PickOf(none, name); ok || v != (impl.Version{}) {
				t.Fatalf("PickOf(%v, %d) is %v, %v", none, name, v, ok)
			}
		}
		checkNotReached(t, s, needs, none)
		checkFault(t, question{s, needs, nil, none}, impl.FaultBad)
		checkFault(t, question{s, nil, none, nil}, impl.FaultBad)
		checkFault(t, question{s, needs, none, picks(0, 1)}, impl.FaultBad)
		for _, c := range [][]impl.Pick{nil, picks(0), picks(0, 1, 2, 3, 4, 5, 6, 7), {pick(7, version(0, 0, 0, 1))}, none} {
			if impl.ChoiceBetter(c, none) || impl.ChoiceBetter(none, c) {
				t.Fatalf("%v is better than %v, or the other way", c, none)
			}
		}
	}
}

// P59 to P61: with no shelf, or no needs, nothing is needed, and the choice is bad.
func TestNoQuestions(t *testing.T) {
	for _, s := range notShelves() {
		checkNotReached(t, s, needsAny(s[0].Name&7), []impl.Pick{pick(s[0].Name&7, major(1))})
		checkNotReached(t, s, needsAny(0, 1, 2, 3, 7), picks(0, 1, 2, 3, 7))
		checkFault(t, question{s: s}, impl.FaultBad)
		checkFault(t, question{s, needsAny(0), nil, picks(1)}, impl.FaultBad)
	}
	for _, needs := range notNeeds() {
		for _, s := range [][]impl.Release{nil, circle(), fullShelf(4)} {
			checkNotReached(t, s, needs, picks(0, 1, 2, 3, 4, 5, 6, 7))
			checkFault(t, question{s, needs, nil, nil}, impl.FaultBad)
			checkFault(t, question{s, needs, nil, picks(0, 1, 2, 3, 4, 5, 6, 7)}, impl.FaultBad)
		}
	}
}

// P58: each pick is found by its name, and by no other one.
func TestPickOf(t *testing.T) {
	for _, c := range okPicks() {
		found := map[int]impl.Version{}
		for _, p := range c {
			found[p.Name] = p.V
		}
		for _, name := range edgeNames() {
			must, has := found[name]
			if v, ok := impl.PickOf(c, name); v != must || ok != has {
				t.Fatalf("PickOf(%v, %d) is %v, %v", c, name, v, ok)
			}
		}
	}
}

// P59: what is needed is picked, and what is picked and needed is told.
func TestReach(t *testing.T) {
	for _, q := range allQuestions() {
		checkReach(t, q.s, q.needs, q.c, mustReach(q.s, q.needs, q.c)...)
		for _, name := range impl.ChoiceReach(q.s, q.needs, q.c) {
			if _, ok := impl.PickOf(q.c, name); !ok {
				t.Fatalf("%d is needed of %v, and not picked", name, q.c)
			}
		}
	}
}

// P59: with more needs not less is needed.
func TestReachOfMoreNeeds(t *testing.T) {
	d := &dice{state: 591}
	for _, q := range rolledQuestions() {
		few := impl.ChoiceReach(q.s, q.needs, q.c)
		more := slices.Clone(q.needs)
		for len(more) < 5 {
			name := d.roll(8)
			at, there := slices.BinarySearchFunc(more, name, func(n impl.Need, name int) int { return n.Name - name })
			if there {
				continue
			}
			more = with(more, at, need(name, rolledRange(d)))
			many := impl.ChoiceReach(q.s, more, q.c)
			for _, was := range few {
				if !slices.Contains(many, was) {
					t.Fatalf("with %v more than %v is needed of %v, but not %d", more, q.needs, q.c, was)
				}
			}
			few = many
		}
	}
}

// P59: picks that need each other and nobody else, needs of what is not picked, and what is not needed but by such.
func TestKnownReach(t *testing.T) {
	all := picks(0, 1, 2, 3, 4, 5, 6, 7)
	checkReach(t, nil, nil, nil)
	checkReach(t, nil, nil, all)
	checkReach(t, nil, needsAny(0, 7), nil)
	checkReach(t, circle(), nil, picks(0, 3, 7))
	checkReach(t, circle(), needsAny(5), picks(0, 3, 7))
	for _, name := range []int{0, 3, 7} {
		checkReach(t, circle(), needsAny(name), picks(0, 3, 7), 0, 3, 7)
	}
	// The circle is open where a pick is missing.
	checkReach(t, circle(), needsAny(0), picks(0, 7), 0)
	checkReach(t, circle(), needsAny(7), picks(0, 7), 0, 7)
	checkReach(t, circle(), needsAny(3), picks(0, 7))
	// What the shelf does not have is needed, but needs nothing.
	checkReach(t, nil, needsAny(0, 3, 7), all, 0, 3, 7)
	checkReach(t, circle(), needsAny(0), []impl.Pick{pick(0, major(2)), pick(3, major(1)), pick(7, major(1))}, 0)
	// A range does not matter for what is needed, nor whether it was withdrawn.
	checkReach(t, circle(), []impl.Need{need(0, impl.Range{})}, picks(0, 3, 7), 0, 3, 7)
	gone, _ := impl.ShelfGone(circle(), 3, major(1))
	checkReach(t, gone, needsAny(0), picks(0, 3, 7), 0, 3, 7)
	s := []impl.Release{
		release(1, major(1), needAny(4)), release(1, major(2), needAny(5)), release(2, major(1), needAny(6)), release(4, major(1)), release(5, major(1)), release(6, major(1)),
	}
	// The other version needs something else; and 2, which nobody needs, needs 6 in vain.
	checkReach(t, s, needsAny(1), picks(1, 2, 4, 5, 6), 1, 4)
	checkReach(t, s, needsAny(1), []impl.Pick{pick(1, major(2)), pick(4, major(1)), pick(5, major(1)), pick(6, major(1))}, 1, 5)
	checkReach(t, s, needsAny(1, 6), picks(1, 2, 4, 5, 6), 1, 4, 6)
}

// P59: a row of picks, each needing the next one, is followed to its end, in whichever direction the names lead.
func TestReachOfLongRows(t *testing.T) {
	all := picks(0, 1, 2, 3, 4, 5, 6, 7)
	var up, down []impl.Release
	for name := 0; name < 7; name++ {
		up = append(up, release(name, major(1), needAny(name+1)))
		down = append(down, release(name+1, major(1), needAny(name)))
	}
	up = append(up, release(7, major(1)))
	down = with(down, 0, release(0, major(1)))
	checkReach(t, up, needsAny(0), all, 0, 1, 2, 3, 4, 5, 6, 7)
	checkReach(t, up, needsAny(5), all, 5, 6, 7)
	checkReach(t, down, needsAny(7), all, 0, 1, 2, 3, 4, 5, 6, 7)
	checkReach(t, down, needsAny(2), all, 0, 1, 2)
	checkReach(t, down, needsAny(7), without(all, 4), 5, 6, 7)
	checkFault(t, question{up, needsAny(0), nil, all}, impl.FaultFine)
	checkFault(t, question{down, needsAny(7), nil, all}, impl.FaultFine)
	checkFault(t, question{up, needsAny(1), nil, all}, impl.FaultIdle)
	checkFault(t, question{down, needsAny(7), nil, without(all, 4)}, impl.FaultInner)
}

// P60: what is wrong first is told, and of each fault there is enough to see.
func TestFaults(t *testing.T) {
	seen := map[int]int{}
	for _, q := range allQuestions() {
		must := mustFault(q)
		checkFault(t, q, must)
		seen[must]++
	}
	for _, fault := range []int{impl.FaultFine, impl.FaultAbsent, impl.FaultGone, impl.FaultNeed, impl.FaultInner, impl.FaultIdle} {
		if seen[fault] < 200 {
			t.Errorf("fault %d is seen %d times only", fault, seen[fault])
		}
	}
}

// P60: a choice that is fine meets each need, with what is held and without it, if nothing of it was withdrawn; and one pick less is not fine.
func TestFineChoices(t *testing.T) {
	helped := 0
	for _, q := range allQuestions() {
		if impl.ChoiceFault(q.s, q.needs, q.held, q.c) != impl.FaultFine {
			continue
		}
		all := slices.Clone(q.needs)
		gone := false
		for _, p := range q.c {
			x := q.s[placeOf(q.s, p)]
			all = append(all, x.Needs...)
			gone = gone || x.Gone
		}
		for _, n := range all {
			if v, ok := impl.PickOf(q.c, n.Name); !ok || !impl.RangeHas(n.R, v) {
				t.Fatalf("%v is fine in %v, and %v is not met", q.c, q.s, n)
			}
		}
		checkLess(t, q)
		q.held = nil
		if gone {
			helped++
			checkFault(t, q, impl.FaultGone)
			continue
		}
		checkFault(t, q, impl.FaultFine)
		checkLess(t, q)
	}
	if helped < 100 {
		t.Errorf("what is held helps %d times only", helped)
	}
}

// checkLess holds of a choice that is fine that it is not with one pick less.
func checkLess(t *testing.T, q question) {
	t.Helper()
	for i := range q.c {
		if fault := impl.ChoiceFault(q.s, q.needs, q.held, without(q.c, i)); fault != impl.FaultNeed && fault != impl.FaultInner {
			t.Fatalf("%v is fine, and without the pick at %d it is %d", q.c, i, fault)
		}
	}
}

// P60: each fault by itself, at its edges.
func TestKnownFaults(t *testing.T) {
	s := []impl.Release{
		release(0, major(1), need(1, impl.RangeOne(major(1)))), release(0, major(2), needAny(5)),
		release(1, major(1)), release(1, major(2)), withdrawn(release(2, major(1), needAny(1))), withdrawn(release(2, major(2))),
		release(3, major(1), needAny(4)), release(4, major(1), needAny(3)), release(6, major(1), need(1, impl.Range{})), release(7, major(1)),
	}
	both := []impl.Pick{pick(0, major(1)), pick(1, major(1))}
	for _, x := range []struct {
		needs []impl.Need
		held  []impl.Pick
		c     []impl.Pick
		must  int
	}{
		{nil, nil, nil, impl.FaultFine},
		{needsAny(0), nil, both, impl.FaultFine},
		{needsAny(0, 1), nil, both, impl.FaultFine},
		{needsAny(7), picks(5), picks(7), impl.FaultFine},
		// Not on the shelf: the name, or the version.
		{needsAny(5), nil, picks(5), impl.FaultAbsent},
		{needsAny(7), nil, []impl.Pick{pick(7, major(2))}, impl.FaultAbsent},
		{needsAny(7), nil, []impl.Pick{pick(7, version(1, 0, 0, 1))}, impl.FaultAbsent},
		{needsAny(5), picks(5), picks(5), impl.FaultAbsent},
		// Withdrawn: held, not held, in another version, and of another name.
		{needsAny(2), nil, picks(1, 2), impl.FaultGone},
		{needsAny(2), picks(2), picks(1, 2), impl.FaultFine},
		{needsAny(2), picks(1, 2, 5), picks(1, 2), impl.FaultFine},
		{needsAny(2), []impl.Pick{pick(2, major(2))}, picks(1, 2), impl.FaultGone},
		{needsAny(2), picks(1, 3), picks(1, 2), impl.FaultGone},
		{needsAny(2), []impl.Pick{pick(2, major(2))}, []impl.Pick{pick(2, major(2))}, impl.FaultFine},
		// What was withdrawn and is held needs what it needed, and can be idle.
		{needsAny(2), picks(2), picks(2), impl.FaultInner},
		{nil, picks(1, 2), picks(1, 2), impl.FaultIdle},
		// What is held need not be picked.
		{nil, picks(2), nil, impl.FaultFine},
		{needsAny(2), picks(2), nil, impl.FaultNeed},
		// A need is not met: nothing is picked, another name, another version, or none is in the range.
		{needsAny(7), nil, nil, impl.FaultNeed},
		{needsAny(1), nil, picks(7), impl.FaultNeed},
		{[]impl.Need{need(1, impl.RangeOne(major(2)))}, nil, picks(1), impl.FaultNeed},
		{[]impl.Need{need(1, impl.Range{})}, nil, picks(1), impl.FaultNeed},
		{needsAny(1, 7), nil, picks(1), impl.FaultNeed},
		{needsAny(1, 7), nil, picks(7), impl.FaultNeed},
		// A need of a pick is not met.
		{needsAny(0), nil, picks(0), impl.FaultInner},
		{needsAny(0), nil, []impl.Pick{pick(0, major(1)), pick(1, major(2))}, impl.FaultInner},
		{needsAny(0), nil, []impl.Pick{pick(0, major(2)), pick(1, major(1))}, impl.FaultInner},
		{needsAny(6), nil, picks(1, 6), impl.FaultInner},
		{needsAny(7), nil, picks(0, 7), impl.FaultInner},
		// Needed by nobody, by each other alone, or by what is not needed itself.
		{nil, nil, picks(7), impl.FaultIdle},
		{needsAny(7), nil, picks(1, 7), impl.FaultIdle},
		{needsAny(7), nil, picks(3, 4, 7), impl.FaultIdle},
		{needsAny(3), nil, picks(3, 4), impl.FaultFine},
		{needsAny(4), nil, picks(3, 4), impl.FaultFine},
		{needsAny(7), nil, picks(0, 1, 7), impl.FaultIdle},
		{nil, picks(7), picks(7), impl.FaultIdle},
	} {
		checkFault(t, question{s, x.needs, x.held, x.c}, x.must)
	}
	checkFault(t, question{nil, needsAny(0), nil, picks(0)}, impl.FaultAbsent)
	checkFault(t, question{nil, needsAny(0), nil, nil}, impl.FaultNeed)
	checkFault(t, question{s: nil, held: picks(0, 7)}, impl.FaultFine)
}

// P60: of several things that are wrong at once the first one is told, each standing behind the ones that are put right.
func TestFirstFault(t *testing.T) {
	s := []impl.Release{withdrawn(release(1, major(1))), release(2, major(1), needAny(3)), release(3, major(1)), release(6, major(1)), release(7, major(1))}
	q := question{s, needsAny(-1, 7), picks(4, 3), picks(1, 2, 5, 6)}
	checkFault(t, q, impl.FaultBad)
	q.held = nil
	checkFault(t, q, impl.FaultBad)
	q.needs = needsAny(7)
	checkFault(t, q, impl.FaultAbsent)
	q.c = picks(1, 2, 6)
	checkFault(t, q, impl.FaultGone)
	q.held = picks(1)
	checkFault(t, q, impl.FaultNeed)
	q.c = picks(1, 2, 6, 7)
	checkFault(t, q, impl.FaultInner)
	q.c = picks(1, 2, 3, 6, 7)
	checkFault(t, q, impl.FaultIdle)
	q.needs = needsAny(1, 2, 6, 7)
	checkFault(t, q, impl.FaultFine)
	q.s = append(q.s, release(7, major(1)))
	checkFault(t, q, impl.FaultBad)
}

// P60: all names can be picked, by needs of one's own and of others, and each of them must be.
func TestAllNamesPicked(t *testing.T) {
	all := picks(0, 1, 2, 3, 4, 5, 6, 7)
	s := []impl.Release{release(0, major(1), needsAny(5, 6)...), release(1, major(1)), release(2, major(1)), release(3, major(1)), release(4, major(1)), release(5, major(1), needAny(7)), release(6, major(1)), release(7, major(1), needsAny(0, 1)...)}
	q := question{s, needsAny(0, 1, 2, 3, 4), nil, all}
	checkReach(t, s, q.needs, all, 0, 1, 2, 3, 4, 5, 6, 7)
	checkFault(t, q, impl.FaultFine)
	checkLess(t, q)
	for i := range s {
		gone, _ := impl.ShelfGone(s, i, major(1))
		checkFault(t, question{gone, q.needs, without(all, i), all}, impl.FaultGone)
		checkFault(t, question{gone, q.needs, picks(i), all}, impl.FaultFine)
	}
}

// P61: picks that meet all needs but are not all needed are a choice when these are left out; and of a choice nothing is left out.
func TestTrim(t *testing.T) {
	idle := 0
	for _, q := range allQuestions() {
		trimmed := impl.ChoiceTrim(q.s, q.needs, q.c)
		if again := impl.ChoiceTrim(q.s, q.needs, trimmed); !slices.Equal(again, trimmed) {
			t.Fatalf("ChoiceTrim of %v is %v, and of that %v", q.c, trimmed, again)
		}
		switch impl.ChoiceFault(q.s, q.needs, q.held, q.c) {
		case impl.FaultFine:
			if !slices.Equal(trimmed, q.c) {
				t.Fatalf("%v is fine, and trimmed it is %v", q.c, trimmed)
			}
		case impl.FaultIdle:
			idle++
			if len(trimmed) == len(q.c) {
				t.Fatalf("of %v nothing is left out", q.c)
			}
			checkFault(t, question{q.s, q.needs, q.held, trimmed}, impl.FaultFine)
		}
	}
	if idle < 1000 {
		t.Errorf("there is something to leave out %d times only", idle)
	}
}

// P62: of two rows of picks one is better, or they are the same.
func TestBetter(t *testing.T) {
	list := []impl.Pick{pick(0, major(1)), pick(0, major(2)), pick(3, version(1, 0, 0, 9)), pick(3, major(1)), pick(7, version(0, 0, 0, 1)), pick(7, version(99, 99, 99, 0))}
	all := okPicks()
	for _, c := range rows(list, 3) {
		if impl.PicksOk(c) {
			all = append(all, c)
		}
	}
	for _, a := range all {
		for _, b := range all {
			better, worse := impl.ChoiceBetter(a, b), impl.ChoiceBetter(b, a)
			if better != mustBetter(a, b) {
				t.Fatalf("ChoiceBetter(%v, %v) is %v", a, b, better)
			}
			if better && worse || (better || worse) == slices.Equal(a, b) {
				t.Fatalf("of %v and %v not one is better", a, b)
			}
		}
	}
}

// P62: at the first name at which picks differ none is better than any version, and a newer one than an older one, whatever stands behind.
func TestKnownBetter(t *testing.T) {
	for _, x := range []struct {
		better, worse []impl.Pick
	}{
		{nil, picks(0)},
		{nil, picks(7)},
		{picks(7), picks(0)},
		{picks(1, 2, 3, 4, 5, 6, 7), picks(0)},
		{picks(0), picks(0, 7)},
		{picks(0, 2), picks(0, 1)},
		{picks(0, 2, 3), picks(0, 1, 2, 3)},
		{[]impl.Pick{pick(0, major(2))}, picks(0)},
		{picks(0), []impl.Pick{pick(0, version(1, 0, 0, 9))}},
		{[]impl.Pick{pick(0, version(1, 0, 0, 2))}, []impl.Pick{pick(0, version(1, 0, 0, 1))}},
		{[]impl.Pick{pick(0, version(1, 0, 1, 1))}, picks(0)},
		{[]impl.Pick{pick(0, major(2)), pick(1, major(1))}, []impl.Pick{pick(0, major(1)), pick(1, major(9))}},
		{[]impl.Pick{pick(0, major(2)), pick(1, major(1))}, []impl.Pick{pick(0, major(1))}},
		{[]impl.Pick{pick(0, major(1)), pick(7, major(2))}, []impl.Pick{pick(0, major(1)), pick(7, major(1))}},
		{picks(7), []impl.Pick{pick(6, version(99, 99, 99, 0)), pick(7, version(99, 99, 99, 0))}},
	} {
		if !impl.ChoiceBetter(x.better, x.worse) || impl.ChoiceBetter(x.worse, x.better) {
			t.Errorf("%v is not better than %v", x.better, x.worse)
		}
		if impl.ChoiceBetter(x.better, x.better) || impl.ChoiceBetter(x.worse, x.worse) {
			t.Errorf("%v or %v is better than itself", x.better, x.worse)
		}
	}
}

// P57 to P62: what is handed in is left as it was, and what is handed out shares no memory with it.
func TestChoicesShareNothing(t *testing.T) {
	list := rolledQuestions()[:500]
	for _, s := range notShelves()[:20] {
		list = append(list, question{s, needsAny(0, 1), picks(1), picks(0, 1)})
	}
	for _, none := range notPicks()[:30] {
		list = append(list, question{circle(), needsAny(0, 3), none, none}, question{circle(), needsAny(1, 0), nil, picks(0, 3, 7)})
	}
	for _, old := range list {
		s, needs, held, c := handed(old.s), handed(old.needs), handed(old.held), handed(old.c)
		was := wholeText(s, needs, held, c)
		answers := []any{impl.ChoiceReach(s, needs, c), impl.ChoiceTrim(s, needs, c), impl.ChoiceTrim(s, needs, c)}
		impl.PicksOk(c)
		impl.PickOf(c, 3)
		impl.ChoiceFault(s, needs, held, c)
		impl.ChoiceBetter(c, held)
		checkMemory(t, "a choice", was, []any{s, needs, held, c}, answers)
	}
}
