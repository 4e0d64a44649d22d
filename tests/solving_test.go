package tests

import (
	"math"
	"slices"
	"testing"

	"loop.example/packageworld/impl"
)

// mustChoices tells without impl all choices in which nothing is wrong, the better one first: all there are on the shelf are tried one by one, and then put in order.
func mustChoices(q question) [][]impl.Pick {
	var list [][]impl.Pick
	for _, c := range choicesOf(q.s) {
		if mustFault(question{q.s, q.needs, q.held, c}) == 0 {
			list = append(list, c)
		}
	}
	slices.SortFunc(list, func(a []impl.Pick, b []impl.Pick) int {
		if mustBetter(a, b) {
			return -1
		}
		if mustBetter(b, a) {
			return 1
		}
		return 0
	})
	return list
}

// looseShelf is a shelf of names below one with many choices: of many needs all versions are in the range, many are left out, and little was withdrawn.
func looseShelf(d *dice, names int) []impl.Release {
	s := kindShelf(d, names)
	for i := range s {
		s[i].Needs = looseNeeds(d, s[i].Needs)
		s[i].Gone = s[i].Gone && d.roll(3) == 0
	}
	return s
}

func looseNeeds(d *dice, needs []impl.Need) []impl.Need {
	var list []impl.Need
	for _, n := range needs {
		switch d.roll(3) {
		case 0:
			list = append(list, n)
		case 1:
			list = append(list, needAny(n.Name))
		}
	}
	return list
}

// rolledQuestion has a shelf of names below one, with tight or loose needs, and what is held.
func rolledQuestion(d *dice, names int, loose bool) question {
	if !loose {
		s := kindShelf(d, names)
		return question{s: s, needs: kindNeeds(d, names, -1), held: rolledPicks(d, s)}
	}
	s := looseShelf(d, names)
	var needs []impl.Need
	for name := d.roll(names); name < names && len(needs) < 5; name += 1 + d.roll(2) {
		needs = append(needs, needAny(name))
	}
	return question{s: s, needs: needs, held: rolledPicks(d, s)}
}

// questionsOf are questions of shelves of so many names and up to three more, four tight ones and four loose ones in turn.
func questionsOf(seed uint64, names int, many int) []question {
	d := &dice{state: seed}
	var list []question
	for i := 0; i < many; i++ {
		list = append(list, rolledQuestion(d, names+i%4, i/4%2 == 1))
	}
	return list
}

// smallShelves are of few names, so that all choices are soon tried.
func smallShelves(many int) []question {
	return questionsOf(2, 1, many)
}

// largeShelves are of many names, or of all.
func largeShelves(many int) []question {
	return questionsOf(64, 5, many)
}

// plantedChoices are large shelves with a choice of each in which nothing is wrong, and which mostly is not the best one: of all needs just those that it does not meet were taken away.
func plantedChoices(many int) []question {
	d := &dice{state: 63}
	var list []question
	for i := 0; i < many; i++ {
		s := rolledShelf(d, 4+i%5)
		c := rolledPicks(d, s)
		for at := len(c) - 1; at >= 0; at-- {
			if placeOf(s, c[at]) < 0 {
				c = without(c, at)
			}
		}
		var held []impl.Pick
		for _, p := range c {
			x := placeOf(s, p)
			s[x].Needs = needsThatAreMet(s[x].Needs, c)
			if s[x].Gone {
				held = append(held, p)
			}
		}
		needs := needsThatAreMet(append(rolledNeeds(d, 4, 7), needAny(7)), c)
		list = append(list, question{s, needs, held, impl.ChoiceTrim(s, needs, c)})
	}
	return list
}

func needsThatAreMet(needs []impl.Need, c []impl.Pick) []impl.Need {
	var list []impl.Need
	for _, n := range needs {
		if mustMeet([]impl.Need{n}, c) {
			list = append(list, n)
		}
	}
	return list
}

func withoutHeld(q question) question {
	q.held = nil
	return q
}

func checkSolved(t *testing.T, q question, must []impl.Pick) {
	t.Helper()
	if c, ok := impl.Solve(q.s, q.needs, q.held); !ok || !slices.Equal(c, must) {
		t.Fatalf("Solve(%v, %v, %v) is %v, %v, not %v", q.s, q.needs, q.held, c, ok, must)
	}
}

func checkNotSolved(t *testing.T, q question) {
	t.Helper()
	if c, ok := impl.Solve(q.s, q.needs, q.held); ok || len(c) != 0 {
		t.Fatalf("Solve(%v, %v, %v) is %v, %v", q.s, q.needs, q.held, c, ok)
	}
}

// checkBest holds what is found against all choices there are, of which the better one stands first.
func checkBest(t *testing.T, q question, all [][]impl.Pick) {
	t.Helper()
	if len(all) == 0 {
		checkNotSolved(t, q)
		return
	}
	checkSolved(t, q, all[0])
}

func sameChoices(a [][]impl.Pick, b [][]impl.Pick) bool {
	return slices.EqualFunc(a, b, slices.Equal[[]impl.Pick])
}

// checkAll holds what is told, at whichever most, against all choices there are without anything held.
func checkAll(t *testing.T, q question, all [][]impl.Pick) {
	t.Helper()
	for _, most := range []int{0, 1, 2, 3, 7, 49, 50, len(all) - 1, len(all), len(all) + 1} {
		if most < 0 || most > 50 {
			continue
		}
		must := all[:min(most, len(all))]
		if list := impl.SolveAll(q.s, q.needs, most); !sameChoices(list, must) {
			t.Fatalf("SolveAll(%v, %v, %d) is %v, not %v", q.s, q.needs, most, list, must)
		}
	}
}

func checkNoneTold(t *testing.T, s []impl.Release, needs []impl.Need, most int) {
	t.Helper()
	if list := impl.SolveAll(s, needs, most); len(list) != 0 {
		t.Fatalf("SolveAll(%v, %v, %d) is %v", s, needs, most, list)
	}
}

// P2 and P64: of small shelves the best choice and all choices are found, as they are if all are tried one by one.
func TestAllChoicesTried(t *testing.T) {
	none, one, few, many, helped := 0, 0, 0, 0, 0
	for _, q := range smallShelves(1200) {
		held := mustChoices(q)
		checkBest(t, q, held)
		q = withoutHeld(q)
		all := mustChoices(q)
		checkBest(t, q, all)
		checkAll(t, q, all)
		if len(held) > 0 && (len(all) == 0 || !slices.Equal(held[0], all[0])) {
			helped++
		}
		switch {
		case len(all) == 0:
			none++
		case len(all) == 1:
			one++
		case len(all) <= 50:
			few++
		default:
			many++
		}
	}
	if none < 100 || one < 100 || few < 100 || many < 5 || helped < 30 {
		t.Errorf("none, one, few and many choices are there %d, %d, %d and %d times only, and what is held helps %d times", none, one, few, many, helped)
	}
}

// P2 and P64: so it is of shelves of many names.
func TestAllChoicesOfLargeShelvesTried(t *testing.T) {
	found := 0
	for _, q := range largeShelves(32) {
		checkBest(t, q, mustChoices(q))
		q = withoutHeld(q)
		all := mustChoices(q)
		checkBest(t, q, all)
		checkAll(t, q, all)
		if len(all) > 1 {
			found++
		}
	}
	if found < 8 {
		t.Errorf("there are choices %d times only", found)
	}
}

// P2: whatever is picked, if nothing is wrong with it, a choice is found that is not less good; and it is right.
func TestNotLessGood(t *testing.T) {
	same, better := 0, 0
	for _, q := range append(plantedChoices(1500), allQuestions()...) {
		if impl.ChoiceFault(q.s, q.needs, q.held, q.c) != impl.FaultFine {
			continue
		}
		c, ok := impl.Solve(q.s, q.needs, q.held)
		if !ok || impl.ChoiceBetter(q.c, c) {
			t.Fatalf("Solve(%v, %v, %v) is %v, %v, and nothing is wrong with %v", q.s, q.needs, q.held, c, ok, q.c)
		}
		checkFault(t, question{q.s, q.needs, q.held, c}, impl.FaultFine)
		if slices.Equal(c, q.c) {
			same++
		} else {
			better++
		}
	}
	if same < 500 || better < 500 {
		t.Errorf("the best one is picked %d times only, or one that is less good %d times", same, better)
	}
}

// P63: what is found is right, and withdrawing what is not in it changes nothing, one by one or all of it.
func TestOthersWithdrawn(t *testing.T) {
	found := 0
	for _, q := range append(plantedChoices(200), append(smallShelves(300), largeShelves(100)...)...) {
		c, ok := impl.Solve(q.s, q.needs, q.held)
		if !ok {
			continue
		}
		found++
		checkFault(t, question{q.s, q.needs, q.held, c}, impl.FaultFine)
		less := q
		for _, x := range q.s {
			if slices.Contains(c, pick(x.Name, x.V)) {
				continue
			}
			one, _ := impl.ShelfGone(q.s, x.Name, x.V)
			checkSolved(t, question{s: one, needs: q.needs, held: q.held}, c)
			less.s, _ = impl.ShelfGone(less.s, x.Name, x.V)
			checkSolved(t, less, c)
		}
		// What is not held could not be picked any more, were it needed.
		checkSolved(t, question{s: less.s, needs: q.needs, held: c}, c)
	}
	if found < 300 {
		t.Errorf("a choice is found %d times only", found)
	}
}

// P64: all choices are right, each is better than the next one, the first one is the best, and fewer are the first ones.
func TestAllChoicesInOrder(t *testing.T) {
	many := 0
	for _, q := range append(plantedChoices(300), append(smallShelves(300), largeShelves(200)...)...) {
		q = withoutHeld(q)
		all := impl.SolveAll(q.s, q.needs, 50)
		checkBest(t, q, all)
		checkAll(t, q, all)
		for i, c := range all {
			checkFault(t, question{q.s, q.needs, nil, c}, impl.FaultFine)
			if i > 0 && !impl.ChoiceBetter(all[i-1], c) {
				t.Fatalf("SolveAll(%v, %v, 50) has %v before %v", q.s, q.needs, all[i-1], c)
			}
		}
		if len(all) == 50 {
			many++
		}
	}
	if many < 30 {
		t.Errorf("there are 50 choices %d times only", many)
	}
}

// P2: the example of the document.
func TestExampleOfSolve(t *testing.T) {
	s := []impl.Release{release(0, major(1)), release(0, major(2), need(1, impl.RangeOne(major(2)))), release(1, major(1)), release(1, major(2))}
	checkSolved(t, question{s: s, needs: []impl.Need{needAny(0), need(1, impl.RangeOne(major(1)))}}, picks(0, 1))
	checkSolved(t, question{s: s, needs: needsAny(0)}, []impl.Pick{pick(0, major(2)), pick(1, major(2))})
}

// P2, P63 and P64: who needs nothing picks nothing, whatever there is and whatever is held.
func TestNoNeedsSolved(t *testing.T) {
	for _, s := range okShelves() {
		for _, held := range [][]impl.Pick{nil, picks(0, 1, 2, 3, 4, 5, 6, 7), {pick(7, major(2))}} {
			checkSolved(t, question{s: s, held: held}, nil)
		}
		checkAll(t, question{s: s}, [][]impl.Pick{nil})
	}
}

// P2 and P64: on an empty shelf nothing meets a need, not even what is held.
func TestEmptyShelfSolved(t *testing.T) {
	for _, s := range [][]impl.Release{nil, {}} {
		for name := 0; name < 8; name++ {
			for _, r := range []impl.Range{impl.RangeAll(), impl.RangeOne(major(1)), {}} {
				needs := []impl.Need{need(name, r)}
				checkNotSolved(t, question{s: s, needs: needs})
				checkNotSolved(t, question{s: s, needs: needs, held: picks(name)})
				checkAll(t, question{s: s, needs: needs}, nil)
			}
		}
	}
}

// P2 and P64: of a full shelf, with one name or with all, the newest versions are the best choice; of the last name the next version is tried first.
func TestFullShelfSolved(t *testing.T) {
	for each := 4; each <= 30; each++ {
		names := min(5, (30+each-1)/each)
		must := func(older int) []impl.Pick {
			var c []impl.Pick
			for name := names - 1; name >= 0; name-- {
				versions := min(each, 30-name*each)
				c = with(c, 0, pick(name, major(versions-older%versions)))
				older /= versions
			}
			return c
		}
		q := question{s: fullShelf(each), needs: needsAny([]int{0, 1, 2, 3, 4}[:names]...)}
		ways := 1
		for name := 0; name < names; name++ {
			ways *= min(each, 30-name*each)
		}
		var all [][]impl.Pick
		for older := 0; older < min(ways, 51); older++ {
			all = append(all, must(older))
		}
		checkBest(t, q, all)
		checkAll(t, q, all)
	}
}

// P2 and P64: a full shelf on which each name needs the next one, the newer the older, and the last one needs a version of the first one.
func TestFullShelfOfNeeds(t *testing.T) {
	var s []impl.Release
	for name := 0; name < 8; name++ {
		for v := 1; v <= 4 && len(s) < 30; v++ {
			if name < 7 {
				s = append(s, release(name, major(v), need(name+1, rangeOf(span(0, impl.VersionRank(major(5-v)))))))
			} else {
				s = append(s, release(name, major(v), need(0, impl.RangeOne(major(3-v)))))
			}
		}
	}
	for _, name := range []int{0, 3, 7} {
		q := question{s: s, needs: needsAny(name)}
		all := mustChoices(q)
		checkBest(t, q, all)
		checkAll(t, q, all)
		if len(all) == 0 {
			t.Errorf("there is no choice for %d", name)
		}
		q.needs = []impl.Need{need(name, impl.RangeOne(major(5)))}
		checkNotSolved(t, q)
		checkAll(t, q, nil)
	}
}

// P2 and P64: many ways, and none that is a choice, since the last name has no version, or one that others do not fit.
func TestManyWaysAndNone(t *testing.T) {
	s := fullShelf(5)
	checkNotSolved(t, question{s: s, needs: needsAny(0, 1, 2, 3, 7)})
	checkAll(t, question{s: s, needs: needsAny(0, 1, 2, 3, 7)}, nil)
	for i := range s {
		if s[i].Name < 5 {
			s[i].Needs = []impl.Need{need(5, impl.RangeOne(major(1+s[i].Name%2)))}
		}
	}
	checkNotSolved(t, question{s: s, needs: needsAny(0, 1, 2, 3, 4)})
	checkAll(t, question{s: s, needs: needsAny(0, 1, 2, 3, 4)}, nil)
	checkSolved(t, question{s: s, needs: needsAny(0, 2, 4)}, []impl.Pick{pick(0, major(5)), pick(2, major(5)), pick(4, major(5)), pick(5, major(1))})
}

// P2 and P64: one choice alone, or none at all.
func TestOneChoiceOrNone(t *testing.T) {
	s := []impl.Release{
		release(0, major(1), need(1, impl.RangeOne(major(1)))), release(0, major(2), need(1, impl.RangeOne(major(2)))),
		release(1, major(1)), release(1, major(2), needAny(4)), release(1, major(3)),
		release(5, major(1), need(0, impl.Range{})), withdrawn(release(6, major(1))),
	}
	for _, x := range []struct {
		needs []impl.Need
		all   [][]impl.Pick
	}{
		{needsAny(0), [][]impl.Pick{picks(0, 1)}},
		{needsAny(0, 1), [][]impl.Pick{picks(0, 1)}},
		{needsAny(1), [][]impl.Pick{{pick(1, major(3))}, picks(1)}},
		{[]impl.Need{needAny(0), need(1, impl.RangeOne(major(3)))}, nil},
		{[]impl.Need{need(0, impl.RangeOne(major(2)))}, nil},
		{[]impl.Need{need(1, impl.RangeOne(version(1, 0, 0, 1)))}, nil},
		{[]impl.Need{need(1, impl.Range{})}, nil},
		{needsAny(1, 4), nil},
		{needsAny(4), nil},
		{needsAny(5), nil},
		{needsAny(6), nil},
		{needsAny(7), nil},
	} {
		checkBest(t, question{s: s, needs: x.needs}, x.all)
		checkAll(t, question{s: s, needs: x.needs}, x.all)
	}
}

// P2, P63 and P64: a name that is needed only by a version that is not picked is not picked, even if another one would be newer with it.
func TestNeededByAnotherVersion(t *testing.T) {
	s := []impl.Release{
		release(0, major(1)), release(2, major(1)), release(2, major(2), needAny(0)), release(2, major(3), needAny(7)),
		release(4, major(1), needAny(6)), release(4, major(2), needAny(7)), release(6, major(1)), release(7, major(1)),
	}
	three := []impl.Pick{pick(2, major(3)), pick(7, major(1))}
	two := []impl.Pick{pick(0, major(1)), pick(2, major(2))}
	checkSolved(t, question{s: s, needs: needsAny(2)}, three)
	// To do without 0, a name before it, is better than a newer 2.
	checkAll(t, question{s: s, needs: needsAny(2)}, [][]impl.Pick{three, picks(2), two})
	checkAll(t, question{s: s, needs: needsAny(4)}, [][]impl.Pick{{pick(4, major(2)), pick(7, major(1))}, picks(4, 6)})
	gone, _ := impl.ShelfGone(s, 7, major(1))
	checkAll(t, question{s: gone, needs: needsAny(2)}, [][]impl.Pick{picks(2), two})
	checkAll(t, question{s: gone, needs: needsAny(4)}, [][]impl.Pick{picks(4, 6)})
	checkAll(t, question{s: s, needs: needsAny(0, 4)}, [][]impl.Pick{{pick(0, major(1)), pick(4, major(2)), pick(7, major(1))}, picks(0, 4, 6)})
}

// P2 and P64: a later name can need an earlier one, which is decided before it: both ways are tried.
func TestNeededFromBehind(t *testing.T) {
	s := []impl.Release{
		release(0, major(1)), release(0, major(2)), release(1, major(1), need(0, impl.RangeOne(major(1)))),
		release(7, major(1)), release(7, major(2), need(0, impl.RangeOne(major(2))), needAny(1)), release(7, major(3), needAny(1)),
	}
	checkAll(t, question{s: s, needs: needsAny(7)}, [][]impl.Pick{picks(7), {pick(0, major(1)), pick(1, major(1)), pick(7, major(3))}})
	checkAll(t, question{s: s, needs: needsAny(1, 7)}, [][]impl.Pick{{pick(0, major(1)), pick(1, major(1)), pick(7, major(3))}, picks(0, 1, 7)})
	checkAll(t, question{s: s, needs: []impl.Need{need(0, impl.RangeOne(major(2))), needAny(7)}}, [][]impl.Pick{{pick(0, major(2)), pick(7, major(1))}})
}

// P2, P63 and P64: needs that lead round in a circle are met all, or the circle is left out.
func TestCircleSolved(t *testing.T) {
	s := circle()
	checkAll(t, question{s: s}, [][]impl.Pick{nil})
	for _, name := range []int{0, 3, 7} {
		checkSolved(t, question{s: s, needs: needsAny(name)}, picks(0, 3, 7))
		checkAll(t, question{s: s, needs: needsAny(name)}, [][]impl.Pick{picks(0, 3, 7)})
		for _, gone := range []int{0, 3, 7} {
			open, _ := impl.ShelfGone(s, gone, major(1))
			checkNotSolved(t, question{s: open, needs: needsAny(name)})
			checkNotSolved(t, question{s: open, needs: needsAny(name), held: without(picks(0, 3, 7), slices.Index([]int{0, 3, 7}, gone))})
			checkSolved(t, question{s: open, needs: needsAny(name), held: picks(gone)}, picks(0, 3, 7))
		}
	}
	with5 := with(s, 2, release(5, major(1)))
	checkAll(t, question{s: with5, needs: needsAny(5)}, [][]impl.Pick{picks(5)})
	// Round the circle each one needs a newer one than the one before, so that it does not close.
	spiral := []impl.Release{
		release(1, major(1), need(2, impl.RangeOne(major(1)))), release(1, major(2), need(2, impl.RangeOne(major(2)))),
		release(2, major(1), need(1, impl.RangeOne(major(2)))), release(2, major(2), need(1, impl.RangeOne(major(3)))),
	}
	for _, needs := range [][]impl.Need{needsAny(1), needsAny(2), needsAny(1, 2)} {
		checkNotSolved(t, question{s: spiral, needs: needs})
		closed := with(spiral, 2, release(1, major(3), needAny(2)))
		checkSolved(t, question{s: closed, needs: needs}, []impl.Pick{pick(1, major(3)), pick(2, major(2))})
		checkAll(t, question{s: closed, needs: needs}, [][]impl.Pick{{pick(1, major(3)), pick(2, major(2))}})
	}
}

// P2 and P63: what was withdrawn is picked just if it is held, in that version, and then it is as good as any other one.
func TestHeldAndWithdrawn(t *testing.T) {
	s := []impl.Release{
		release(2, major(1)), withdrawn(release(2, major(2), needAny(5))), withdrawn(release(2, major(3))), release(2, major(4), need(5, impl.RangeOne(major(9)))),
		release(5, major(1)), withdrawn(release(5, major(2))), withdrawn(release(6, major(1))),
	}
	two, three := pick(2, major(2)), pick(2, major(3))
	for _, x := range []struct {
		needs []impl.Need
		held  []impl.Pick
		must  []impl.Pick
	}{
		{needsAny(2), nil, picks(2)},
		{needsAny(2), []impl.Pick{three}, []impl.Pick{three}},
		{needsAny(2), []impl.Pick{two}, []impl.Pick{two, pick(5, major(1))}},
		{needsAny(2), []impl.Pick{two, pick(5, major(2))}, []impl.Pick{two, pick(5, major(2))}},
		{needsAny(2), []impl.Pick{two, pick(5, major(3))}, []impl.Pick{two, pick(5, major(1))}},
		{[]impl.Need{needAny(2), need(5, impl.RangeOne(major(1)))}, []impl.Pick{two, pick(5, major(2))}, []impl.Pick{two, pick(5, major(1))}},
		// Held in another version, of another name, or not withdrawn at all, it is no reason to pick anything.
		{needsAny(2), picks(2), picks(2)},
		{needsAny(2), []impl.Pick{pick(2, major(4))}, picks(2)},
		{needsAny(2), []impl.Pick{pick(2, major(9))}, picks(2)},
		{needsAny(2), []impl.Pick{pick(2, version(3, 0, 0, 1))}, picks(2)},
		{needsAny(2), []impl.Pick{pick(5, major(3))}, picks(2)},
		{needsAny(5), []impl.Pick{two}, picks(5)},
		{needsAny(2, 6), picks(6), picks(2, 6)},
		{nil, []impl.Pick{three, pick(5, major(2)), pick(6, major(1))}, nil},
	} {
		checkSolved(t, question{s: s, needs: x.needs, held: x.held}, x.must)
	}
	checkNotSolved(t, question{s: s, needs: needsAny(6)})
	checkNotSolved(t, question{s: s, needs: needsAny(6), held: []impl.Pick{pick(6, major(2))}})
	checkNotSolved(t, question{s: s, needs: needsAny(6), held: []impl.Pick{pick(2, major(1)), pick(5, major(1))}})
	checkNotSolved(t, question{s: s, needs: []impl.Need{need(2, impl.RangeOne(major(2)))}, held: []impl.Pick{three}})
	// Nothing is held where all choices are asked for.
	checkAll(t, question{s: s, needs: needsAny(2)}, [][]impl.Pick{picks(2)})
	checkAll(t, question{s: s, needs: needsAny(2, 6)}, nil)
	checkAll(t, question{s: s, needs: needsAny(5)}, [][]impl.Pick{picks(5)})
}

// P2: on a shelf of which all was withdrawn what is held can be picked, and nothing else.
func TestAllWithdrawn(t *testing.T) {
	s := fullShelf(4)
	for i := range s {
		s[i].Gone = true
	}
	needs := needsAny(0, 3, 7)
	held := []impl.Pick{pick(0, major(2)), pick(1, major(4)), pick(3, major(1)), pick(7, major(2))}
	checkNotSolved(t, question{s: s, needs: needs})
	checkAll(t, question{s: s, needs: needs}, nil)
	checkSolved(t, question{s: s, needs: needs, held: held}, without(held, 1))
	for at := range held {
		if held[at].Name != 1 {
			checkNotSolved(t, question{s: s, needs: needs, held: without(held, at)})
		}
	}
}

// P2 and P64: what goes ahead of a version is older than that.
func TestAheadSolved(t *testing.T) {
	s := []impl.Release{release(3, version(1, 0, 0, 1)), release(3, version(1, 0, 0, 9)), release(3, major(1)), release(3, version(1, 0, 1, 1))}
	var all [][]impl.Pick
	for i := len(s) - 1; i >= 0; i-- {
		all = append(all, []impl.Pick{pick(3, s[i].V)})
	}
	checkBest(t, question{s: s, needs: needsAny(3)}, all)
	checkAll(t, question{s: s, needs: needsAny(3)}, all)
	checkAll(t, question{s: s, needs: []impl.Need{need(3, rangeOf(span(0, impl.VersionRank(major(1)))))}}, all[1:])
}

// P64: at most so many are told, where there are as many, one less, or one more.
func TestMostChoices(t *testing.T) {
	for _, x := range []struct{ a, b int }{{1, 1}, {7, 7}, {5, 10}, {10, 5}, {3, 17}, {17, 3}, {15, 15}, {1, 29}} {
		var s []impl.Release
		var all [][]impl.Pick
		for i := 0; i < x.a; i++ {
			s = append(s, release(0, major(1+i)))
			for j := 0; j < x.b; j++ {
				all = append(all, []impl.Pick{pick(0, major(x.a-i)), pick(7, major(x.b-j))})
			}
		}
		for j := 0; j < x.b; j++ {
			s = append(s, release(7, major(1+j)))
		}
		q := question{s: s, needs: needsAny(0, 7)}
		checkBest(t, q, all)
		checkAll(t, q, all)
		for most := 0; most <= 50; most++ {
			if many := len(impl.SolveAll(s, q.needs, most)); many != min(most, len(all)) {
				t.Fatalf("of %d choices at most %d are %d", len(all), most, many)
			}
		}
	}
}

// P64: less than none and more than 50 are not asked for.
func TestNoMost(t *testing.T) {
	for _, most := range []int{math.MinInt, -50, -1, 51, 52, 100, math.MaxInt} {
		checkNoneTold(t, nil, nil, most)
		checkNoneTold(t, circle(), needsAny(0), most)
		checkNoneTold(t, fullShelf(4), needsAny(0, 1, 2), most)
	}
}

// P2, P63 and P64: with no shelf, no needs, or no held picks nothing is chosen, even where nothing would have to be.
func TestNotSolved(t *testing.T) {
	full := fullShelf(4)
	for _, s := range notShelves() {
		for _, needs := range [][]impl.Need{nil, needsAny(s[0].Name & 7), needsAny(0, 1, 7)} {
			checkNotSolved(t, question{s: s, needs: needs})
			checkNotSolved(t, question{s: s, needs: needs, held: picks(0, 7)})
			checkNoneTold(t, s, needs, 50)
			checkNoneTold(t, s, needs, 1)
		}
	}
	for _, needs := range notNeeds() {
		for _, s := range [][]impl.Release{nil, circle(), full} {
			checkNotSolved(t, question{s: s, needs: needs})
			checkNoneTold(t, s, needs, 50)
			checkNoneTold(t, s, needs, 1)
		}
	}
	for _, none := range notPicks() {
		for _, needs := range [][]impl.Need{nil, needsAny(0), needsAny(0, 1, 3)} {
			for _, s := range [][]impl.Release{nil, circle(), full} {
				checkNotSolved(t, question{s: s, needs: needs, held: none})
			}
		}
	}
}

// P2, P63 and P64: what is handed in is left as it was, and what is handed out shares no memory with it, nor a choice with another one.
func TestSolvingSharesNothing(t *testing.T) {
	list := append(plantedChoices(100), append(smallShelves(200), largeShelves(60)...)...)
	list = append(list, question{s: fullShelf(4), needs: needsAny(0, 1, 2, 3, 4)}, question{s: fullShelf(30), needs: needsAny(0)}, question{})
	for _, s := range notShelves()[:20] {
		list = append(list, question{s: s, needs: needsAny(0, 1), held: picks(1)})
	}
	for _, none := range notPicks()[:30] {
		list = append(list, question{s: circle(), needs: needsAny(0, 3), held: none}, question{s: circle(), needs: needsAny(1, 0), held: picks(0)})
	}
	for _, old := range list {
		s, needs, held := handed(old.s), handed(old.needs), handed(old.held)
		was := wholeText(s, needs, held)
		c, _ := impl.Solve(s, needs, held)
		again, _ := impl.Solve(s, needs, held)
		answers := []any{c, again, impl.SolveAll(s, needs, 50), impl.SolveAll(s, needs, 50), impl.SolveAll(s, needs, 3)}
		if !same(answers[0], answers[1]) || !same(answers[2], answers[3]) {
			t.Fatalf("asked again of %v, %v and %v it is not the same", s, needs, held)
		}
		checkMemory(t, "solving", was, []any{s, needs, held}, answers)
	}
}
