package tests

import (
	"math"
	"regexp"
	"slices"
	"strconv"
	"strings"
	"testing"

	"loop.example/packageworld/impl"
)

// relocked is what locking again is asked of: the lock is what is held.
type relocked struct {
	question
	free []int
}

func oddNames() []int {
	return []int{-1, 8, math.MinInt, math.MaxInt, -1, 100}
}

func allNames() []int {
	return []int{0, 1, 2, 3, 4, 5, 6, 7}
}

// frees are names that are set free: none, each one, all, some in any order, twice, and such as are no names.
func frees() [][]int {
	list := [][]int{nil, {}, allNames(), {7, 6, 5, 4, 3, 2, 1, 0}, {0, 7}, {7, 0}, {3, 3}, {1, 0, 1, 0}, {2, 4, 6}, oddNames(), append(oddNames(), 2, 5), append(allNames(), oddNames()...)}
	for _, name := range append(allNames(), oddNames()...) {
		list = append(list, []int{name})
	}
	return list
}

// rolledFree are no names half of the time, and otherwise some, in any order, now and then twice or beside what is no name.
func rolledFree(d *dice) []int {
	if d.roll(2) == 0 {
		return nil
	}
	var free []int
	for range 1 + d.roll(4) {
		free = append(free, d.roll(10)-1)
	}
	return free
}

// rolledLock has few or many picks of a choice, and for others a release of the shelf, one that is not there, or none.
func rolledLock(d *dice, s []impl.Release, c []impl.Pick) []impl.Pick {
	often := 1 + d.roll(4)
	var lock []impl.Pick
	for _, name := range allNames() {
		rows := [][]impl.Pick{nil, {pick(name, version(8, 8, 8, 8))}}
		for _, x := range s {
			if x.Name == name {
				rows = append(rows, []impl.Pick{pick(name, x.V)})
			}
		}
		if d.roll(4) < often {
			rows = [][]impl.Pick{picksOfName(c, name)}
		}
		lock = append(lock, rows[d.roll(len(rows))]...)
	}
	return lock
}

func picksOfName(c []impl.Pick, name int) []impl.Pick {
	return slices.DeleteFunc(slices.Clone(c), func(p impl.Pick) bool { return p.Name != name })
}

// mustChanges tells without impl of how many names that are not set free what is locked is not picked.
func mustChanges(lock []impl.Pick, free []int, c []impl.Pick) int {
	many := 0
	for _, p := range lock {
		if !slices.Contains(free, p.Name) && !slices.Contains(c, p) {
			many++
		}
	}
	return many
}

// mustRelock tells without impl which of all choices, the better one standing first, has the fewest changes.
func mustRelock(q relocked, all [][]impl.Pick) []impl.Pick {
	best := all[0]
	for _, c := range all {
		if mustChanges(q.held, q.free, c) < mustChanges(q.held, q.free, best) {
			best = c
		}
	}
	return best
}

func checkChanges(t *testing.T, lock []impl.Pick, free []int, c []impl.Pick, must int) {
	t.Helper()
	if many := impl.LockChanges(lock, free, c); many != must {
		t.Fatalf("LockChanges(%v, %v, %v) is %d, not %d", lock, free, c, many, must)
	}
}

func checkRelocked(t *testing.T, q relocked, must []impl.Pick) {
	t.Helper()
	if c, ok := impl.Relock(q.s, q.needs, q.held, q.free); !ok || !slices.Equal(c, must) {
		t.Fatalf("Relock(%v, %v, %v, %v) is %v, %v, not %v", q.s, q.needs, q.held, q.free, c, ok, must)
	}
}

func checkNotRelocked(t *testing.T, q relocked) {
	t.Helper()
	if c, ok := impl.Relock(q.s, q.needs, q.held, q.free); ok || len(c) != 0 {
		t.Fatalf("Relock(%v, %v, %v, %v) is %v, %v", q.s, q.needs, q.held, q.free, c, ok)
	}
}

// checkFewest holds what is locked against all choices there are, of which the better one stands first.
func checkFewest(t *testing.T, q relocked, all [][]impl.Pick) {
	t.Helper()
	if len(all) == 0 {
		checkNotRelocked(t, q)
		return
	}
	checkRelocked(t, q, mustRelock(q, all))
}

// The way of chapter 7: a lock is a row of picks. This does not compile if it is anything else.
func TestLockIsPicks(t *testing.T) {
	type row []struct {
		Name int
		V    impl.Version
	}
	var lock []impl.Pick
	lock, _ = impl.LockFrom("b 2.0.0\n")
	if len(lock) != 1 || lock[0].Name != 1 || lock[0].V != major(2) {
		t.Error("a lock is not its picks")
	}
	lock, _ = impl.Relock([]impl.Release{release(1, major(2))}, needsAny(1), lock, nil)
	var again string = impl.LockText(lock)
	if again != "b 2.0.0\n" {
		t.Error(again)
	}
	if must := (row{{1, major(2)}}); lock[0] != impl.Pick(must[0]) {
		t.Error("a pick is not a name and its version")
	}
}

// P71: nothing of a lock changes in itself, nor of names that are all set free.
func TestNothingChanges(t *testing.T) {
	locks := okPicks()
	for i, lock := range locks {
		for _, free := range frees() {
			checkChanges(t, lock, free, lock, 0)
		}
		for _, c := range [][]impl.Pick{nil, lock, locks[(i*7+5)%len(locks)], picks(0, 1, 2, 3, 4, 5, 6, 7)} {
			checkChanges(t, lock, allNames(), c, 0)
			checkChanges(t, lock, append(oddNames(), 7, 5, 3, 1, 6, 4, 2, 0, 0), c, 0)
			checkChanges(t, lock, namesOf(lock), c, 0)
		}
		checkChanges(t, lock, nil, nil, len(lock))
	}
}

// P71: of each name that is not set free a change is told just if it was locked and is not picked as it was.
func TestChanges(t *testing.T) {
	d := &dice{state: 71}
	locks := okPicks()
	seen := make([]int, 9)
	for range 20000 {
		lock, c := locks[d.roll(len(locks))], locks[d.roll(len(locks))]
		if d.roll(2) == 0 {
			c = rolledLock(d, nil, lock)
		}
		free := rolledFree(d)
		must := mustChanges(lock, free, c)
		checkChanges(t, lock, free, c, must)
		seen[must]++
	}
	for many, times := range seen[:8] {
		if times < 20 {
			t.Errorf("there are %d changes %d times only", many, times)
		}
	}
}

// P71: changes that were counted by hand.
func TestKnownChanges(t *testing.T) {
	lock := []impl.Pick{pick(0, major(1)), pick(3, major(2)), pick(7, version(1, 0, 0, 9))}
	for _, x := range []struct {
		free []int
		c    []impl.Pick
		must int
	}{
		{nil, lock, 0},
		{nil, nil, 3},
		// Another version is a change, and so is none.
		{nil, picks(0, 3, 7), 2},
		{nil, lock[:2], 1},
		{nil, lock[1:], 1},
		{nil, []impl.Pick{pick(0, major(1)), pick(7, version(1, 0, 0, 9))}, 1},
		{nil, []impl.Pick{pick(0, version(1, 0, 0, 1)), pick(3, major(2)), pick(7, major(1))}, 2},
		// What was not locked is no change, and no version of another name keeps anything.
		{nil, []impl.Pick{pick(0, major(1)), pick(1, major(9)), pick(3, major(2)), pick(4, major(9)), pick(7, version(1, 0, 0, 9))}, 0},
		{nil, []impl.Pick{pick(1, major(1)), pick(2, major(2)), pick(6, version(1, 0, 0, 9))}, 3},
		// What is set free is not counted, whether it was changed or not.
		{[]int{0}, nil, 2},
		{[]int{3}, picks(0, 3, 7), 1},
		{[]int{3, 7}, picks(0, 3, 7), 0},
		{[]int{7, 3, 7, 3}, picks(0, 3, 7), 0},
		{[]int{0}, picks(0, 3, 7), 2},
		{[]int{0, 3, 7}, nil, 0},
		{[]int{1, 2, 4, 5, 6}, nil, 3},
		{oddNames(), nil, 3},
		{append(oddNames(), 0), nil, 2},
	} {
		checkChanges(t, lock, x.free, x.c, x.must)
	}
	checkChanges(t, nil, nil, nil, 0)
	checkChanges(t, nil, nil, lock, 0)
	checkChanges(t, nil, allNames(), lock, 0)
	all := picks(allNames()...)
	for many := range 9 {
		checkChanges(t, all, nil, all[many:], many)
		checkChanges(t, all, nil, all[:many], 8-many)
		checkChanges(t, all, allNames()[many:], nil, many)
	}
}

// P71: of what is no lock or no picks no changes are told, whatever is set free.
func TestNoChanges(t *testing.T) {
	for _, none := range notPicks() {
		for _, free := range [][]int{nil, {0}, allNames(), oddNames()} {
			checkChanges(t, none, free, nil, -1)
			checkChanges(t, none, free, picks(0, 1), -1)
			checkChanges(t, nil, free, none, -1)
			checkChanges(t, picks(0, 1), free, none, -1)
			checkChanges(t, none, free, none, -1)
		}
	}
}

// relockedOf has questions with each of three locks: what was picked there, a choice with some changes, and the best one.
func relockedOf(seed uint64, list []question) []relocked {
	d := &dice{state: seed}
	var all []relocked
	for _, q := range list {
		best, _ := impl.Solve(q.s, q.needs, nil)
		held := q.held
		for _, lock := range [][]impl.Pick{held, rolledLock(d, q.s, best), best} {
			q.held = lock
			all = append(all, relocked{q, rolledFree(d)})
		}
	}
	return all
}

// P7: of small shelves the choice is found that has the fewest changes, and of those the best one, as it is if all are tried one by one.
func TestAllTriedForLocks(t *testing.T) {
	none, kept, less, changed, first := 0, 0, 0, 0, 0
	for _, q := range relockedOf(7, smallShelves(1200)) {
		all := mustChoices(q.question)
		checkFewest(t, q, all)
		if len(all) == 0 {
			none++
			continue
		}
		must := mustRelock(q, all)
		many := mustChanges(q.held, q.free, must)
		if many == 0 {
			kept++
		} else {
			changed++
		}
		// The best one of all would not keep as much.
		if many < mustChanges(q.held, q.free, all[0]) {
			less++
		}
		// A further one keeps as much and is less good.
		if slices.ContainsFunc(all, func(c []impl.Pick) bool {
			return mustBetter(must, c) && mustChanges(q.held, q.free, c) == many
		}) {
			first++
		}
	}
	if none < 300 || kept < 300 || less < 150 || changed < 300 || first < 300 {
		t.Errorf("there is no choice %d times only, all is kept %d times, more than by the best one %d times, not all %d times, and there is a choice that keeps as much %d times", none, kept, less, changed, first)
	}
}

// P7: so it is of shelves of many names, and whatever is set free of one lock.
func TestAllTriedForLargeLocks(t *testing.T) {
	found := 0
	for _, q := range relockedOf(77, largeShelves(24)) {
		all := mustChoices(q.question)
		checkFewest(t, q, all)
		for _, free := range frees() {
			q.free = free
			checkFewest(t, q, all)
		}
		if len(all) > 1 {
			found++
		}
	}
	if found < 18 {
		t.Errorf("there are choices %d times only", found)
	}
}

// lockedBefore are locks that were right, behind which a release came, or was withdrawn, or other needs.
func lockedBefore(many int) []relocked {
	d := &dice{state: 78}
	var list []relocked
	for i := range many {
		q := rolledQuestion(d, 2+i%3, true)
		lock, ok := impl.Relock(q.s, q.needs, rolledLock(d, q.s, nil), nil)
		if !ok || len(lock) == 0 {
			continue
		}
		for range 1 + d.roll(3) {
			p := lock[d.roll(len(lock))]
			if d.roll(2) == 0 {
				p.V = version(d.roll(4), d.roll(3), 0, 0)
			}
			if gone, ok := impl.ShelfGone(q.s, p.Name, p.V); ok {
				q.s = gone
			} else if put, ok := impl.ShelfPut(q.s, release(p.Name, p.V, looseNeeds(d, kindNeeds(d, 4, p.Name))...)); ok {
				q.s = put
			}
		}
		if d.roll(2) == 0 {
			q.needs = looseNeeds(d, kindNeeds(d, 4, -1))
		}
		q.held = lock
		list = append(list, relocked{q, rolledFree(d)})
	}
	return list
}

// P7 and P72: when shelf or needs change a new choice keeps as much as can be; what was withdrawn behind the lock, too.
func TestAllTriedForOldLocks(t *testing.T) {
	right, changed, gone, idle := 0, 0, 0, 0
	for _, q := range lockedBefore(900) {
		all := mustChoices(q.question)
		checkFewest(t, q, all)
		if len(all) == 0 {
			continue
		}
		must := mustRelock(q, all)
		if slices.Equal(must, q.held) {
			right++
		} else {
			changed++
		}
		if slices.ContainsFunc(must, func(p impl.Pick) bool { return q.s[placeOf(q.s, p)].Gone }) {
			gone++
		}
		if mustFault(question{q.s, q.needs, q.held, q.held}) == impl.FaultIdle {
			idle++
		}
	}
	if right < 50 || changed < 50 || gone < 50 || idle < 20 {
		t.Errorf("the lock stays %d times only, is changed %d times, has what was withdrawn %d times, and what is not needed %d times", right, changed, gone, idle)
	}
}

// P7: whatever is picked, if nothing is wrong with it, a choice is found that has not more changes, and if as many, it is not less good; and it is right.
func TestNoChoiceKeepsMore(t *testing.T) {
	d := &dice{state: 79}
	same, fewer, better := 0, 0, 0
	for i, q := range append(plantedChoices(600), smallQuestions()...) {
		if impl.ChoiceFault(q.s, q.needs, q.held, q.c) != impl.FaultFine {
			continue
		}
		best, _ := impl.Solve(q.s, q.needs, q.held)
		near := [][]impl.Pick{q.c, best, nil}[i%3]
		// What is held stays, since the choice may have what was withdrawn of it.
		lock := slices.Clone(q.held)
		for _, p := range rolledLock(d, q.s, near) {
			if !slices.Contains(namesOf(q.held), p.Name) {
				lock = append(lock, p)
			}
		}
		slices.SortFunc(lock, func(a, b impl.Pick) int { return a.Name - b.Name })
		q.held = lock
		checkFault(t, q, impl.FaultFine)
		free := rolledFree(d)
		c, ok := impl.Relock(q.s, q.needs, lock, free)
		checkFault(t, question{q.s, q.needs, lock, c}, impl.FaultFine)
		had, has := mustChanges(lock, free, q.c), mustChanges(lock, free, c)
		if !ok || has > had || has == had && mustBetter(q.c, c) {
			t.Fatalf("Relock(%v, %v, %v, %v) is %v, %v, and nothing is wrong with %v", q.s, q.needs, lock, free, c, ok, q.c)
		}
		switch {
		case slices.Equal(c, q.c):
			same++
		case has < had:
			fewer++
		default:
			better++
		}
	}
	if same < 500 || fewer < 200 || better < 100 {
		t.Errorf("a choice is found %d times only, one with fewer changes %d times, and a better one %d times", same, fewer, better)
	}
}

// P7: locks of which it was found by hand what comes of them.
func TestKnownLocks(t *testing.T) {
	s := []impl.Release{
		release(0, major(1), needAny(2)), release(0, major(2), needAny(2)), release(0, major(3)),
		release(1, major(1), need(2, impl.RangeOne(major(1)))), release(1, major(2), need(2, impl.RangeOne(major(2)))),
		release(2, major(1)), release(2, major(2)), release(2, major(3)),
	}
	a := func(n int) impl.Pick { return pick(0, major(n)) }
	b := func(n int) impl.Pick { return pick(1, major(n)) }
	c := func(n int) impl.Pick { return pick(2, major(n)) }
	for _, x := range []struct {
		needs []impl.Need
		lock  []impl.Pick
		free  []int
		must  []impl.Pick
	}{
		// Without a lock it is the best choice, and so it is with all set free.
		{needsAny(0), nil, nil, []impl.Pick{a(3)}},
		{needsAny(0), nil, allNames(), []impl.Pick{a(3)}},
		{needsAny(0), []impl.Pick{a(1), c(1)}, []int{0, 2}, []impl.Pick{a(3)}},
		{needsAny(0), []impl.Pick{a(1), c(1)}, allNames(), []impl.Pick{a(3)}},
		// What is right stays.
		{needsAny(0), []impl.Pick{a(1), c(1)}, nil, []impl.Pick{a(1), c(1)}},
		{needsAny(0), []impl.Pick{a(1), c(1)}, []int{1, 3, 7, -1, 8, 1}, []impl.Pick{a(1), c(1)}},
		// One is set free, and the other one is kept: none of it would be a change, too.
		{needsAny(0), []impl.Pick{a(1), c(1)}, []int{0}, []impl.Pick{a(2), c(1)}},
		{needsAny(0), []impl.Pick{a(1), c(1)}, []int{2}, []impl.Pick{a(1), c(3)}},
		{needsAny(0), []impl.Pick{a(1), c(1)}, []int{2, 2, -1, 8, 2}, []impl.Pick{a(1), c(3)}},
		// A further need: what it asks for may change the lock, and changes no more than it must.
		{needsAny(0, 1), []impl.Pick{a(1), c(1)}, nil, []impl.Pick{a(1), b(1), c(1)}},
		{needsAny(0, 1), []impl.Pick{a(1), c(2)}, nil, []impl.Pick{a(1), b(2), c(2)}},
		{needsAny(0, 1), []impl.Pick{a(1), c(3)}, nil, []impl.Pick{a(1), b(2), c(2)}},
		{needsAny(0, 1), []impl.Pick{a(1), c(1)}, []int{0}, []impl.Pick{a(3), b(1), c(1)}},
		{needsAny(0, 1), []impl.Pick{a(1), c(1)}, []int{2}, []impl.Pick{a(1), b(2), c(2)}},
		// Two cannot be kept both: then the best one of as many changes.
		{needsAny(1), []impl.Pick{b(1), c(2)}, nil, []impl.Pick{b(2), c(2)}},
		{needsAny(1), []impl.Pick{b(2), c(1)}, nil, []impl.Pick{b(2), c(2)}},
		{needsAny(1), []impl.Pick{b(1), c(3)}, nil, []impl.Pick{b(1), c(1)}},
		// More of a lock is kept, even if the first name is older for that.
		{needsAny(0, 1), []impl.Pick{a(1), b(1), c(3)}, nil, []impl.Pick{a(1), b(1), c(1)}},
		{needsAny(0, 1), []impl.Pick{a(1), b(1), c(1)}, []int{0, 1}, []impl.Pick{a(3), b(1), c(1)}},
		// What is not needed any more is not kept, and does not keep anything else.
		{needsAny(2), []impl.Pick{a(1), b(1), c(1)}, nil, []impl.Pick{c(1)}},
		{needsAny(2), []impl.Pick{a(1), b(1), c(1)}, []int{2}, []impl.Pick{c(3)}},
		{nil, []impl.Pick{a(1), b(1), c(1)}, nil, nil},
		{nil, []impl.Pick{a(1), b(1), c(1)}, []int{0}, nil},
		{nil, nil, nil, nil},
		{needsAny(0), []impl.Pick{c(1)}, nil, []impl.Pick{a(2), c(1)}},
		{needsAny(0), []impl.Pick{b(1), c(1)}, nil, []impl.Pick{a(2), c(1)}},
		{needsAny(0), []impl.Pick{b(1), c(1)}, []int{2}, []impl.Pick{a(3)}},
		// What is not on the shelf cannot be kept.
		{needsAny(0), []impl.Pick{a(4)}, nil, []impl.Pick{a(3)}},
		{needsAny(0), []impl.Pick{a(4), c(1)}, nil, []impl.Pick{a(2), c(1)}},
		{needsAny(0), []impl.Pick{a(1), c(4)}, nil, []impl.Pick{a(1), c(3)}},
		{needsAny(0), []impl.Pick{pick(0, version(1, 0, 0, 1)), pick(7, major(1))}, nil, []impl.Pick{a(3)}},
		// Nor what a need does not allow any more.
		{[]impl.Need{need(0, impl.RangeOne(major(2)))}, []impl.Pick{a(1), c(1)}, nil, []impl.Pick{a(2), c(1)}},
		{[]impl.Need{need(0, impl.RangeOne(major(3)))}, []impl.Pick{a(1), c(1)}, nil, []impl.Pick{a(3)}},
	} {
		q := relocked{question{s: s, needs: x.needs, held: x.lock}, x.free}
		checkRelocked(t, q, x.must)
		checkFewest(t, q, mustChoices(q.question))
	}
}

// P7 and P72: a release that was withdrawn stays where it is locked, even set free it can be picked, and nowhere else.
func TestWithdrawnAndLocked(t *testing.T) {
	s := []impl.Release{
		release(2, major(1)), withdrawn(release(2, major(2), needAny(5))), withdrawn(release(2, major(3))), release(2, major(4), need(5, impl.RangeOne(major(9)))),
		release(5, major(1)), withdrawn(release(5, major(2))), withdrawn(release(6, major(1))),
	}
	one, two, three := pick(2, major(1)), pick(2, major(2)), pick(2, major(3))
	for _, x := range []struct {
		needs []impl.Need
		lock  []impl.Pick
		free  []int
		must  []impl.Pick
	}{
		{needsAny(2), nil, nil, []impl.Pick{one}},
		{needsAny(2), []impl.Pick{one}, nil, []impl.Pick{one}},
		{needsAny(2), []impl.Pick{three}, nil, []impl.Pick{three}},
		{needsAny(2), []impl.Pick{three}, []int{2}, []impl.Pick{three}},
		{needsAny(2), []impl.Pick{two}, nil, []impl.Pick{two, pick(5, major(1))}},
		{needsAny(2), []impl.Pick{two}, []int{2}, []impl.Pick{two, pick(5, major(1))}},
		{needsAny(2), []impl.Pick{two, pick(5, major(1))}, nil, []impl.Pick{two, pick(5, major(1))}},
		{needsAny(2), []impl.Pick{two, pick(5, major(2))}, nil, []impl.Pick{two, pick(5, major(2))}},
		{needsAny(2), []impl.Pick{two, pick(5, major(1))}, []int{5}, []impl.Pick{two, pick(5, major(1))}},
		{needsAny(2), []impl.Pick{two, pick(5, major(3))}, nil, []impl.Pick{two, pick(5, major(1))}},
		{needsAny(2, 5), []impl.Pick{one, pick(5, major(2))}, nil, []impl.Pick{one, pick(5, major(2))}},
		{needsAny(2, 5), []impl.Pick{one, pick(5, major(1))}, nil, []impl.Pick{one, pick(5, major(1))}},
		{needsAny(2, 5), []impl.Pick{one, pick(5, major(2))}, []int{2, 5}, []impl.Pick{one, pick(5, major(2))}},
		{[]impl.Need{needAny(2), need(5, impl.RangeOne(major(1)))}, []impl.Pick{two, pick(5, major(2))}, nil, []impl.Pick{two, pick(5, major(1))}},
		{needsAny(6), picks(6), nil, picks(6)},
		{needsAny(6), picks(6), []int{6}, picks(6)},
		// It is not needed any more.
		{needsAny(2), picks(2, 6), nil, picks(2)},
		{nil, []impl.Pick{three, pick(5, major(2)), pick(6, major(1))}, nil, nil},
	} {
		q := relocked{question{s: s, needs: x.needs, held: x.lock}, x.free}
		checkRelocked(t, q, x.must)
		checkFewest(t, q, mustChoices(q.question))
	}
	// Withdrawn, and locked in another version, or not at all.
	checkNotRelocked(t, relocked{question{s: s, needs: needsAny(6)}, nil})
	checkNotRelocked(t, relocked{question{s: s, needs: needsAny(6)}, []int{6}})
	checkNotRelocked(t, relocked{question{s: s, needs: needsAny(6), held: []impl.Pick{pick(6, major(2))}}, nil})
	checkNotRelocked(t, relocked{question{s: s, needs: []impl.Need{need(2, impl.RangeOne(major(2)))}, held: []impl.Pick{three}}, nil})
	for i := range s {
		s[i].Gone = true
	}
	for _, free := range frees() {
		checkRelocked(t, relocked{question{s: s, needs: needsAny(2, 6), held: []impl.Pick{two, pick(5, major(2)), pick(6, major(1))}}, free}, []impl.Pick{two, pick(5, major(2)), pick(6, major(1))})
		checkNotRelocked(t, relocked{question{s: s, needs: needsAny(2, 6), held: []impl.Pick{two, pick(6, major(1))}}, free})
	}
}

// P7: with no lock, or with all of it set free, it is the best choice of all that are there.
func TestNothingToKeep(t *testing.T) {
	found, none := 0, 0
	for _, q := range append(plantedChoices(200), append(smallShelves(300), largeShelves(100)...)...) {
		for _, lock := range [][]impl.Pick{nil, {}, q.held} {
			c, ok := impl.Solve(q.s, q.needs, lock)
			for _, free := range [][]int{allNames(), append([]int{7, 7, 9, -1}, allNames()...), namesOf(lock)} {
				x := relocked{question{s: q.s, needs: q.needs, held: lock}, free}
				if ok {
					found++
					checkRelocked(t, x, c)
				} else {
					none++
					checkNotRelocked(t, x)
				}
			}
		}
	}
	if found < 1000 || none < 500 {
		t.Errorf("there is a choice %d times only, and none %d times", found, none)
	}
}

// P7: which names are set free is a set: the order, what stands there twice, is in no lock, or is no name does not matter.
func TestFreeNamesAreASet(t *testing.T) {
	d := &dice{state: 80}
	for _, q := range lockedBefore(300) {
		c, ok := impl.Relock(q.s, q.needs, q.held, q.free)
		others := append(oddNames(), q.free...)
		slices.Reverse(others)
		others = append(others, q.free...)
		for _, name := range allNames() {
			if len(picksOfName(q.held, name)) == 0 && d.roll(2) == 0 {
				others = append(others, name)
			}
		}
		q.free = others
		if ok {
			checkRelocked(t, q, c)
		} else {
			checkNotRelocked(t, q)
		}
	}
}

// P7: of full shelves a lock of the oldest versions is kept whole, or but for what is set free or cannot be kept.
func TestFullShelfLocked(t *testing.T) {
	for each := 4; each <= 30; each++ {
		names := min(5, (30+each-1)/each)
		needs := needsAny([]int{0, 1, 2, 3, 4}[:names]...)
		s := fullShelf(each)
		lock := picks([]int{0, 1, 2, 3, 4}[:names]...)
		checkRelocked(t, relocked{question{s: s, needs: needs, held: lock}, nil}, lock)
		for name := range names {
			newest := slices.Clone(lock)
			newest[name] = pick(name, major(min(each, 30-name*each)))
			checkRelocked(t, relocked{question{s: s, needs: needs, held: lock}, []int{name}}, newest)
			checkRelocked(t, relocked{question{s: s, needs: needs, held: without(lock, name)}, nil}, newest)
			wrong := slices.Clone(lock)
			wrong[name] = pick(name, major(31))
			checkRelocked(t, relocked{question{s: s, needs: needs, held: wrong}, nil}, newest)
		}
	}
}

// P7 and P72: a lock of all names, each needing the next one in its own version, is kept, or none of it can be.
func TestAllNamesLocked(t *testing.T) {
	var s []impl.Release
	for name := range 8 {
		for v := 1; v <= 3; v++ {
			x := release(name, major(v))
			if name < 7 {
				x.Needs = []impl.Need{need(name+1, impl.RangeOne(major(v)))}
			}
			s = append(s, x)
		}
	}
	whole := func(v int) []impl.Pick {
		var c []impl.Pick
		for name := range 8 {
			c = append(c, pick(name, major(v)))
		}
		return c
	}
	for v := 1; v <= 3; v++ {
		q := relocked{question{s: s, needs: needsAny(0), held: whole(v)}, nil}
		checkRelocked(t, q, whole(v))
		for name := range 8 {
			q.free = []int{name}
			checkRelocked(t, q, whole(v))
			// Of one name alone that is locked all of them are kept.
			checkRelocked(t, relocked{question{s: s, needs: needsAny(0), held: whole(v)[name : name+1]}, nil}, whole(v))
		}
		q.free = allNames()
		checkRelocked(t, q, whole(3))
	}
	// Most of the names win, whichever they are; of as many, the newer ones.
	for mask := range 1 << 8 {
		var lock []impl.Pick
		many := 0
		for name := range 8 {
			lock = append(lock, pick(name, major(1+mask>>name&1)))
			many += mask >> name & 1
		}
		must := whole(1)
		if many >= 4 {
			must = whole(2)
		}
		checkRelocked(t, relocked{question{s: s, needs: needsAny(0), held: lock}, nil}, must)
	}
}

// P7: needs that cannot be met are not, whatever is locked.
func TestLocksOfNone(t *testing.T) {
	s := fullShelf(5)
	for _, lock := range append(okPicks()[:40], picks(0, 1, 2, 3, 4, 5, 6, 7), picks(7)) {
		for _, free := range [][]int{nil, {7}, allNames(), oddNames()} {
			checkNotRelocked(t, relocked{question{s: s, needs: needsAny(7), held: lock}, free})
			checkNotRelocked(t, relocked{question{s: s, needs: []impl.Need{need(0, impl.Range{})}, held: lock}, free})
			checkNotRelocked(t, relocked{question{s: s, needs: needsAny(0, 1, 2, 7), held: lock}, free})
			checkNotRelocked(t, relocked{question{needs: needsAny(0), held: lock}, free})
			checkRelocked(t, relocked{question{s: s, held: lock}, free}, nil)
			checkRelocked(t, relocked{question{held: lock}, free}, nil)
		}
	}
}

// P72: a lock that is right stays as it is, if nothing is set free.
func TestRightLocksStay(t *testing.T) {
	right := 0
	for _, q := range append(plantedChoices(1500), append(smallQuestions(), smallShelves(300)...)...) {
		for _, lock := range [][]impl.Pick{q.c, q.held} {
			if impl.ChoiceFault(q.s, q.needs, lock, lock) != impl.FaultFine {
				continue
			}
			if len(lock) > 0 {
				right++
			}
			for _, free := range [][]int{nil, {}, oddNames()} {
				checkRelocked(t, relocked{question{s: q.s, needs: q.needs, held: lock}, free}, lock)
			}
		}
	}
	if right < 1000 {
		t.Errorf("a lock is right %d times only", right)
	}
}

// P72: so it does behind whatever releases come and whatever of it is withdrawn.
func TestRightLocksStayWithChangedShelf(t *testing.T) {
	came := 0
	for _, q := range plantedChoices(600) {
		s := q.s
		for _, p := range q.c {
			s, _ = impl.ShelfGone(s, p.Name, p.V)
			checkRelocked(t, relocked{question{s: s, needs: q.needs, held: q.c}, nil}, q.c)
			if newer, ok := impl.ShelfPut(s, release(p.Name, version(99, 0, 0, 0))); ok {
				s = newer
				came++
				checkRelocked(t, relocked{question{s: s, needs: q.needs, held: q.c}, nil}, q.c)
			}
		}
	}
	if came < 300 {
		t.Errorf("a release came %d times only", came)
	}
}

// P72: locking again what was locked changes nothing, whether the same is set free again or nothing.
func TestLockedAgain(t *testing.T) {
	again := 0
	for _, q := range append(relockedOf(9, append(smallShelves(300), largeShelves(60)...)), lockedBefore(300)...) {
		lock, ok := impl.Relock(q.s, q.needs, q.held, q.free)
		if !ok {
			continue
		}
		again++
		q.held = lock
		checkRelocked(t, q, lock)
		q.free = nil
		checkRelocked(t, q, lock)
		checkFault(t, question{q.s, q.needs, lock, lock}, impl.FaultFine)
	}
	if again < 300 {
		t.Errorf("it is locked %d times only", again)
	}
}

// P7 and P72: with no shelf, no needs or no lock nothing is locked, even where nothing would have to be.
func TestNotRelocked(t *testing.T) {
	full := fullShelf(4)
	for _, free := range [][]int{nil, {0}, allNames()} {
		for _, s := range notShelves() {
			for _, needs := range [][]impl.Need{nil, needsAny(s[0].Name & 7), needsAny(0, 1, 7)} {
				checkNotRelocked(t, relocked{question{s: s, needs: needs}, free})
				checkNotRelocked(t, relocked{question{s: s, needs: needs, held: picks(0, 7)}, free})
			}
		}
		for _, s := range [][]impl.Release{nil, circle(), full} {
			for _, needs := range notNeeds() {
				checkNotRelocked(t, relocked{question{s: s, needs: needs}, free})
				checkNotRelocked(t, relocked{question{s: s, needs: needs, held: picks(0, 1)}, free})
			}
			for _, none := range notPicks() {
				for _, needs := range [][]impl.Need{nil, needsAny(0), needsAny(0, 1, 3)} {
					checkNotRelocked(t, relocked{question{s: s, needs: needs, held: none}, free})
				}
			}
		}
	}
}

// mustLockText tells without impl how a lock is written.
func mustLockText(lock []impl.Pick) string {
	text := ""
	for _, p := range lock {
		text += string(rune('a'+p.Name)) + " " + mustText(p.V) + "\n"
	}
	return text
}

// formOfLock tells what a lock is written like, without impl: each letter on at most one line, in order.
func formOfLock() *regexp.Regexp {
	form := `\A`
	for _, letter := range "abcdefgh" {
		form += `(?:` + string(letter) + ` ((?:0|[1-9][0-9]?)\.(?:0|[1-9][0-9]?)\.(?:0|[1-9][0-9]?)(?:-[1-9])?)\n)?`
	}
	return regexp.MustCompile(form + `\z`)
}

// mustVersion is for texts that are known to be versions.
func mustVersion(text string) impl.Version {
	var numbers [4]int
	for i, part := range strings.FieldsFunc(text, func(sign rune) bool { return sign == '.' || sign == '-' }) {
		numbers[i], _ = strconv.Atoi(part)
	}
	return version(numbers[0], numbers[1], numbers[2], numbers[3])
}

// checkLockForm holds what is read of a text, or that nothing is, against what the document says, and reports which of both it is.
func checkLockForm(t *testing.T, form *regexp.Regexp, text string) bool {
	t.Helper()
	parts := form.FindStringSubmatch(text)
	var must []impl.Pick
	for name := 0; name+1 < len(parts); name++ {
		if parts[name+1] != "" {
			must = append(must, pick(name, mustVersion(parts[name+1])))
		}
	}
	lock, ok := impl.LockFrom(text)
	if ok != (parts != nil) || !slices.Equal(lock, must) {
		t.Fatalf("LockFrom(%q) is %v, %v, not %v", text, lock, ok, must)
	}
	if ok && (!impl.PicksOk(lock) || impl.LockText(lock) != text) {
		t.Fatalf("LockFrom(%q) is %v, which is written %q", text, lock, impl.LockText(lock))
	}
	return ok
}

func checkLockRefused(t *testing.T, text string) {
	t.Helper()
	if lock, ok := impl.LockFrom(text); ok || len(lock) != 0 {
		t.Fatalf("LockFrom(%q) is %v, %v", text, lock, ok)
	}
}

// checkLockWritten holds that a lock is written as it must be, and read back.
func checkLockWritten(t *testing.T, lock []impl.Pick, must string) {
	t.Helper()
	text := impl.LockText(lock)
	if text != must {
		t.Fatalf("LockText(%v) is %q, not %q", lock, text, must)
	}
	if back, ok := impl.LockFrom(text); !ok || !slices.Equal(back, lock) {
		t.Fatalf("LockFrom(%q) is %v, %v", text, back, ok)
	}
}

// longestLock is the lock with the longest text there is.
func longestLock() ([]impl.Pick, string) {
	var lock []impl.Pick
	text := ""
	for name := range 8 {
		lock = append(lock, pick(name, version(99, 99, 99, 9)))
		text += string("abcdefgh"[name]) + " 99.99.99-9\n"
	}
	return lock, text
}

// P73: locks that were written by hand.
func TestKnownLockTexts(t *testing.T) {
	top := impl.VersionTop
	longest, text := longestLock()
	for _, x := range []struct {
		lock []impl.Pick
		text string
	}{
		{nil, ""},
		{[]impl.Pick{}, ""},
		{picks(0), "a 1.0.0\n"},
		{picks(7), "h 1.0.0\n"},
		{[]impl.Pick{pick(0, version(0, 0, 0, 0))}, "a 0.0.0\n"},
		{[]impl.Pick{pick(0, version(0, 0, 0, 1))}, "a 0.0.0-1\n"},
		{[]impl.Pick{pick(3, version(top, top, top, 0))}, "d 99.99.99\n"},
		{[]impl.Pick{pick(3, version(top, top, top, 9))}, "d 99.99.99-9\n"},
		{[]impl.Pick{pick(1, version(1, 2, 3, 4)), pick(4, version(10, 20, 30, 0))}, "b 1.2.3-4\ne 10.20.30\n"},
		{picks(0, 1, 2, 3, 4, 5, 6, 7), "a 1.0.0\nb 1.0.0\nc 1.0.0\nd 1.0.0\ne 1.0.0\nf 1.0.0\ng 1.0.0\nh 1.0.0\n"},
		{longest, text},
	} {
		checkLockWritten(t, x.lock, x.text)
		if lock, ok := impl.LockFrom(x.text); !ok || !slices.Equal(lock, x.lock) {
			t.Errorf("LockFrom(%q) is %v, %v", x.text, lock, ok)
		}
	}
}

// P73: a lock as text is read back, of all sets of names, all edges of versions, and whatever was locked.
func TestLockTextIsReadBack(t *testing.T) {
	locks := okPicks()
	for _, q := range lockedBefore(300) {
		lock, _ := impl.Relock(q.s, q.needs, q.held, q.free)
		locks = append(locks, q.held, lock)
	}
	d := &dice{state: 73}
	for range 3000 {
		var lock []impl.Pick
		for _, name := range allNames() {
			if d.roll(2) == 0 {
				lock = append(lock, pick(name, version(d.roll(100), d.roll(100), d.roll(100), d.roll(10))))
			}
		}
		locks = append(locks, lock)
	}
	for _, lock := range locks {
		checkLockWritten(t, lock, mustLockText(lock))
	}
	for _, x := range knownVersions() {
		for name := range 8 {
			checkLockWritten(t, []impl.Pick{pick(name, x.v)}, string("abcdefgh"[name])+" "+x.text+"\n")
		}
	}
}

// P73: what is no lock is not written.
func TestNoLockText(t *testing.T) {
	for _, none := range notPicks() {
		if text := impl.LockText(none); text != "" {
			t.Errorf("LockText(%v) is %q", none, text)
		}
	}
}

// P8 and P74: texts that are none of a lock, one thing being wrong with each.
func TestOtherLockTextsAreRefused(t *testing.T) {
	list := []string{
		// Without its last newline, with one too many, with an empty line, or lines that end in another way.
		"a 1.0.0", "a 1.0.0\nb 1.0.0", "a 1.0.0\n\n", "\na 1.0.0\n", "a 1.0.0\n\nb 1.0.0\n", "\n", "\n\n", "a 1.0.0\r\n", "a 1.0.0\r", "a 1.0.0\rb 1.0.0\n", "a 1.0.0 b 1.0.0\n", "a 1.0.0;b 1.0.0\n", "a 1.0.0\x00", "a 1.0.0\n\x00",
		// With two blanks, or none, or at other places, or other signs for them.
		"a  1.0.0\n", "a1.0.0\n", " a 1.0.0\n", "a 1.0.0 \n", "a 1 .0.0\n", "a\t1.0.0\n", "a\x001.0.0\n", "a\u00a01.0.0\n", "a_1.0.0\n", "a-1.0.0\n", "a\n1.0.0\n", "a:1.0.0\n", "a 1.0.0\n ", " \n", "a 1.0.0\n \n",
		// With a name that is no letter of one, or more than one letter, or none.
		"i 1.0.0\n", "z 1.0.0\n", "` 1.0.0\n", "A 1.0.0\n", "H 1.0.0\n", "0 1.0.0\n", "1 1.0.0\n", "@ 1.0.0\n", "\xe1 1.0.0\n", "\x01 1.0.0\n", "aa 1.0.0\n", "ab 1.0.0\n", " 1.0.0\n", "1.0.0\n", "  1.0.0\n", "a 1.0.0\ni 1.0.0\n", "ä 1.0.0\n", "а 1.0.0\n", "\xff 1.0.0\n",
		// Not in ascending order, or twice.
		"b 1.0.0\na 1.0.0\n", "h 1.0.0\na 1.0.0\n", "a 1.0.0\nc 1.0.0\nb 1.0.0\n", "a 1.0.0\na 1.0.0\n", "a 1.0.0\na 2.0.0\n", "a 2.0.0\na 1.0.0\n", "h 1.0.0\nh 1.0.0\n", "a 1.0.0\nb 1.0.0\na 1.0.0\n", "a 1.0.0\nb 1.0.0\nb 1.0.0\n",
		// Without a version, with a name alone, or two versions.
		"a", "a ", "a\n", "a \n", "h\n", " ", "a 1.0.0\nb\n", "a 1.0.0\nb \n", "a 1.0.0 2.0.0\n", "a 1.0.0 1.0.0\n", "a 1.0.01.0.0\n", "a 1.0.0b 1.0.0\n", "a b 1.0.0\n", "x", "1.0.0",
	}
	for _, text := range textsOfNone() {
		list = append(list, "a "+text+"\n", "a 1.0.0\nb "+text+"\n", "a "+text+"\nb 1.0.0\n")
	}
	form := formOfLock()
	for _, text := range list {
		// Some texts that are no version make two lines of it, which may be a lock.
		if !form.MatchString(text) {
			checkLockRefused(t, text)
		}
		checkLockForm(t, form, text)
	}
}

// P8: at most 300 bytes are read, and no lock has as many.
func TestLongLockTexts(t *testing.T) {
	form := formOfLock()
	longest, text := longestLock()
	if len(text) != 104 {
		t.Fatal(len(text))
	}
	for _, sign := range []string{"\n", " ", "a", "1", "\x00", "\xff", text, "a 1.0.0\n", "9", "."} {
		for _, first := range []string{"", text, "a 1.0.0\n", "a 1.0.0", "a 1.0.", "h 1.0.0\n", "a "} {
			long := first + strings.Repeat(sign, 1+301/len(sign))
			for _, end := range []int{105, 299, 300, 301} {
				checkLockRefused(t, long[:end])
				checkLockForm(t, form, long[:end])
				checkLockRefused(t, long[:end-1]+"\n")
			}
		}
	}
	for _, many := range []int{1000, 100000} {
		checkLockRefused(t, strings.Repeat("a 1.0.0\n", many))
		checkLockRefused(t, strings.Repeat("\n", many))
		checkLockRefused(t, "a "+strings.Repeat("0", many)+"1.0.0\n")
		checkLockRefused(t, strings.Repeat(" ", many)+text)
	}
	checkLockWritten(t, longest, text)
	checkLockForm(t, form, "")
}

// nearTexts are all texts that differ from one in one byte, put for one, put in, or left out, and those of which a beginning or an end is left.
func nearTexts(text string) []string {
	var list []string
	for i := 0; i <= len(text); i++ {
		for b := range 256 {
			other := string([]byte{byte(b)})
			list = append(list, text[:i]+other+text[i:])
			if i < len(text) {
				list = append(list, text[:i]+other+text[i+1:])
			}
		}
		if i < len(text) {
			list = append(list, text[:i]+text[i+1:])
		}
		list = append(list, text[:i], text[i:])
	}
	return list
}

// P8 and P74: each text that is near that of a lock is read in one way, which is how its lock is written, or refused.
func TestTextsNearLocks(t *testing.T) {
	form := formOfLock()
	read, refused := 0, 0
	_, longest := longestLock()
	for _, text := range []string{"", "a 1.0.0\n", "h 99.99.99-9\n", "a 0.0.0-1\nb 10.9.0\n", "b 1.2.3\nd 4.5.6-7\nh 0.0.0\n", longest} {
		for _, other := range nearTexts(text) {
			if checkLockForm(t, form, other) {
				read++
			} else {
				refused++
			}
		}
	}
	if read < 500 || refused < 50000 {
		t.Errorf("texts are read %d times only, and refused %d times", read, refused)
	}
}

// P8 and P74: lines of locks in all orders, whole or broken.
func TestLinesInAnyOrder(t *testing.T) {
	form := formOfLock()
	lines := []string{"a 1.0.0\n", "b 0.0.0-1\n", "h 99.99.99\n", "g 2.3.4-9\n", "i 1.0.0\n", "a 2.0.0\n", "\n", "b 1.0.0", " ", "01.0.0\n"}
	read := 0
	for _, row := range rows(lines, 4) {
		if checkLockForm(t, form, strings.Join(row, "")) {
			read++
		}
	}
	if read < 20 {
		t.Errorf("texts are read %d times only", read)
	}
}

// P8: whatever a text is, it is a lock, or a version, just as the document says, and then it is how that is written.
func TestArbitraryTexts(t *testing.T) {
	d := &dice{state: 8}
	locks, versions := formOfLock(), formOfVersion()
	pieces := []string{"a", "b", "c", "h", "i", " ", " ", "\n", "\n", ".", ".", ".", "-", "0", "1", "9", "12", "99", "1.2.3", "0.0.0", "4.5.6-7", " 1.0.0\n", "a 1.0.0\n", "b 2.0.0-1\n", "\x00", "\xff", "é"}
	read := 0
	for range 60000 {
		text := ""
		for range d.roll(9) {
			text += pieces[d.roll(len(pieces))]
		}
		checkForm(t, versions, text)
		if checkLockForm(t, locks, text) && text != "" {
			read++
		}
	}
	if read < 200 {
		t.Errorf("texts are read %d times only", read)
	}
	for range 20000 {
		bytes := make([]byte, d.roll(303))
		for i := range bytes {
			bytes[i] = byte(d.roll(256))
		}
		checkForm(t, versions, string(bytes))
		checkLockForm(t, locks, string(bytes))
	}
	for _, x := range knownVersions() {
		checkForm(t, versions, x.text)
		checkLockForm(t, locks, x.text)
		checkForm(t, versions, "a "+x.text+"\n")
		checkLockForm(t, locks, "a "+x.text+"\n")
	}
}

// P7, P8 and P71 to P74: what is handed in is left as it was, and what is handed out shares no memory with it.
func TestLocksShareNothing(t *testing.T) {
	list := append(relockedOf(10, append(plantedChoices(60), append(smallShelves(150), largeShelves(40)...)...)), lockedBefore(100)...)
	for _, s := range notShelves()[:20] {
		list = append(list, relocked{question{s: s, needs: needsAny(0, 1), held: picks(1)}, []int{1, 1}})
	}
	for _, none := range notPicks()[:30] {
		list = append(list, relocked{question{s: circle(), needs: needsAny(0, 3), held: none}, []int{0}})
	}
	for _, needs := range notNeeds()[:20] {
		list = append(list, relocked{question{s: circle(), needs: needs, held: picks(0)}, nil})
	}
	for _, old := range list {
		s, needs, lock, free := handed(old.s), handed(old.needs), handed(old.held), handed(old.free)
		was := wholeText(s, needs, lock, free)
		c, _ := impl.Relock(s, needs, lock, free)
		again, _ := impl.Relock(s, needs, lock, free)
		if !slices.Equal(c, again) || impl.LockChanges(lock, free, c) != impl.LockChanges(lock, free, again) {
			t.Fatalf("asked again of %v, %v, %v and %v it is not the same", s, needs, lock, free)
		}
		impl.LockChanges(c, free, lock)
		text := impl.LockText(lock)
		read, _ := impl.LockFrom(text)
		other, _ := impl.LockFrom(text)
		checkMemory(t, "a lock", was, []any{s, needs, lock, free}, []any{c, again, read, other})
	}
}
