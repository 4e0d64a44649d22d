package tests

import (
	"fmt"
	"math"
	"slices"
	"testing"

	"loop.example/packageworld/impl"
)

func need(name int, r impl.Range) impl.Need {
	return impl.Need{Name: name, R: r}
}

// needAny needs a name in whichever version.
func needAny(name int) impl.Need {
	return need(name, impl.RangeAll())
}

func needsAny(names ...int) []impl.Need {
	var list []impl.Need
	for _, name := range names {
		list = append(list, needAny(name))
	}
	return list
}

func release(name int, v impl.Version, needs ...impl.Need) impl.Release {
	return impl.Release{Name: name, V: v, Needs: needs}
}

func withdrawn(x impl.Release) impl.Release {
	x.Gone = true
	return x
}

// major is a version of which only Major is not 0.
func major(n int) impl.Version {
	return version(n, 0, 0, 0)
}

// same reports whether two values have the same parts; a slice without elements is like nil.
func same(a any, b any) bool {
	return fmt.Sprintf("%+v", a) == fmt.Sprintf("%+v", b)
}

// without is a copy of a row without one element, and with is one with one more at a place.
func without[T any](list []T, i int) []T {
	return slices.Delete(slices.Clone(list), i, i+1)
}

func with[T any](list []T, i int, x T) []T {
	return slices.Insert(slices.Clone(list), i, x)
}

// edgeNames are names, and what is none at both bounds.
func edgeNames() []int {
	return []int{math.MinInt, -1, 0, 1, 2, 3, 4, 5, 6, 7, 8, math.MaxInt}
}

// inOrder reports whether names are ones, each after the one before it.
func inOrder(names []int) bool {
	for i, name := range names {
		if name < 0 || name > 7 || i > 0 && names[i-1] >= name {
			return false
		}
	}
	return true
}

// rows are all rows of at most so many elements of a list.
func rows[T any](list []T, most int) [][]T {
	all := [][]T{nil}
	for i := 0; i < len(all); i++ {
		if len(all[i]) == most {
			break
		}
		for _, x := range list {
			all = append(all, with(all[i], len(all[i]), x))
		}
	}
	return all
}

// dice is a row of numbers that looks like chance and is the same in each run.
type dice struct {
	state uint64
}

// roll is a number in 0..n-1.
func (d *dice) roll(n int) int {
	d.state = d.state*6364136223846793005 + 1442695040888963407
	return int(d.state>>33) % n
}

func rolledRange(d *dice) impl.Range {
	list := []impl.Range{
		impl.RangeAll(), impl.RangeAll(), {}, impl.RangeFrom(version(1, 0, 0, 1)), impl.RangeFrom(major(1)), impl.RangeFrom(major(2)),
		impl.RangeOne(major(1)), impl.RangeOne(version(1, 5, 0, 0)), rangeOf(span(0, 100009)), rangeOf(span(100010, 9999999)),
		rangeOf(span(100009, 100009), span(200000, 9999999)), rangeOf(span(150009, 300009)),
	}
	return list[d.roll(len(list))]
}

// rolledNeeds are needs of at most so many names, and not of one.
func rolledNeeds(d *dice, most int, not int) []impl.Need {
	var list []impl.Need
	for name := 0; name <= 7; name++ {
		if name != not && len(list) < most && d.roll(4) == 0 {
			list = append(list, need(name, rolledRange(d)))
		}
	}
	return list
}

// rolledShelf is a shelf of names below one, each in some versions or in none.
func rolledShelf(d *dice, names int) []impl.Release {
	versions := []impl.Version{version(0, 9, 0, 0), version(1, 0, 0, 1), major(1), version(1, 5, 0, 0), major(2), major(3)}
	var s []impl.Release
	for name := 0; name < names; name++ {
		for _, v := range versions {
			if d.roll(2) == 0 && len(s) < 30 {
				x := release(name, v, rolledNeeds(d, d.roll(6), name)...)
				x.Gone = d.roll(6) == 0
				s = append(s, x)
			}
		}
	}
	return s
}

func rolledShelves(many int) [][]impl.Release {
	d := &dice{state: 3}
	var list [][]impl.Release
	for i := 0; i < many; i++ {
		list = append(list, rolledShelf(d, 1+i%8))
	}
	return list
}

// fullShelf has 30 releases, of the names 0, 1, 2 and so on, and of each so many.
func fullShelf(each int) []impl.Release {
	var s []impl.Release
	for i := 0; i < 30; i++ {
		s = append(s, release(i/each, major(1+i%each)))
	}
	return s
}

// circle are three names that need each other in turn.
func circle() []impl.Release {
	return []impl.Release{release(0, major(1), needAny(3)), release(3, major(1), needAny(7)), release(7, major(1), needAny(0))}
}

func edgeShelves() [][]impl.Release {
	return [][]impl.Release{
		nil,
		{},
		{release(0, version(0, 0, 0, 1))},
		{release(7, version(99, 99, 99, 0))},
		{withdrawn(release(3, major(1)))},
		{release(0, major(1), needAny(7)), release(7, major(1), needAny(0))},
		{release(2, version(1, 0, 0, 1)), release(2, version(1, 0, 0, 9)), release(2, major(1)), release(2, version(1, 0, 1, 0)), release(2, major(2))},
		{release(0, major(9)), release(1, major(1))},
		{release(0, major(1), needsAny(1, 2, 3, 4, 5)...), release(7, major(1), needsAny(0, 1, 2, 5, 6)...)},
		{release(4, major(1), need(2, impl.Range{}), need(6, comb(0, 2, 1, 40)))},
		circle(),
		fullShelf(4),
		fullShelf(30),
	}
}

func okShelves() [][]impl.Release {
	return append(edgeShelves(), rolledShelves(80)...)
}

// notNeeds are rows that are no needs, however right their parts may be.
func notNeeds() [][]impl.Need {
	list := [][]impl.Need{
		needsAny(0, 1, 2, 3, 4, 5), needsAny(2, 3, 4, 5, 6, 7), needsAny(0, 1, 2, 3, 4, 5, 6, 7),
		needsAny(-1), needsAny(8), needsAny(-1, 0), needsAny(0, 8), needsAny(math.MinInt), needsAny(math.MaxInt), needsAny(0, math.MaxInt),
		needsAny(1, 0), needsAny(7, 0), needsAny(0, 2, 1), needsAny(1, 2, 3, 0),
		needsAny(0, 0), needsAny(7, 7), needsAny(1, 2, 2), needsAny(1, 1, 2), needsAny(0, 1, 0),
		{need(1, impl.RangeFrom(major(1))), need(1, impl.RangeFrom(major(2)))},
		{need(1, impl.Range{}), need(1, impl.Range{})},
	}
	for _, none := range notRanges() {
		list = append(list, []impl.Need{need(3, none)}, []impl.Need{need(0, none), needAny(3)}, []impl.Need{needAny(0), needAny(1), need(7, none)})
	}
	return list
}

// notReleases are releases that can stand on no shelf.
func notReleases() []impl.Release {
	list := []impl.Release{
		release(-1, major(1)), release(8, major(1)), release(math.MinInt, major(1)), release(math.MaxInt, major(1)),
		// Needs of the own name.
		release(0, major(1), needAny(0)),
		release(7, major(1), needAny(7)),
		release(2, major(1), needsAny(1, 2)...),
		release(2, major(1), needsAny(2, 3)...),
		release(3, major(1), needsAny(1, 2, 3, 4, 5)...),
		release(3, major(1), need(3, impl.Range{})),
		release(3, major(2), need(3, impl.RangeOne(major(1)))),
		withdrawn(release(3, major(1), needAny(3))),
	}
	for _, v := range notVersions() {
		list = append(list, release(3, v))
	}
	for _, needs := range notNeeds() {
		list = append(list, release(6, major(1), needs...))
	}
	return list
}

func notShelves() [][]impl.Release {
	a := release(1, major(1))
	b := release(1, major(2))
	c := release(2, major(1))
	list := [][]impl.Release{
		// In the wrong order.
		{b, a}, {c, a}, {c, b}, {a, c, b}, {b, a, c}, {c, a, b},
		{release(1, major(1)), release(1, version(1, 0, 0, 1))},
		{release(1, version(1, 0, 0, 2)), release(1, version(1, 0, 0, 1))},
		{release(1, version(0, 2, 0, 0)), release(1, version(0, 1, 9, 0))},
		{release(7, major(1)), release(0, major(2))},
		// Twice.
		{a, a}, {a, b, b}, {a, a, b}, {a, b, a}, {a, withdrawn(a)}, {withdrawn(a), withdrawn(a)}, {a, release(1, major(1), needAny(0))},
		// One too many.
		with(fullShelf(4), 30, release(7, major(9))), with(fullShelf(4), 0, release(0, version(0, 1, 0, 0))), with(fullShelf(30), 30, release(5, major(1))),
		append(fullShelf(30), release(1, major(1)), release(1, major(2)), release(1, major(3))),
	}
	for _, none := range notReleases() {
		list = append(list, []impl.Release{none}, []impl.Release{release(0, version(0, 0, 0, 1)), none}, []impl.Release{none, release(7, major(9))})
	}
	return list
}

// mustFit tells without impl whether a release fits a need.
func mustFit(x impl.Release, n impl.Need) bool {
	return x.Name == n.Name && !x.Gone && mustHave(n.R, impl.VersionRank(x.V))
}

func mustFits(s []impl.Release, n impl.Need) []int {
	var places []int
	for i, x := range s {
		if mustFit(x, n) {
			places = append(places, i)
		}
	}
	return places
}

// mustComeUp tells without impl which releases come up, round by round until no further one does, and all needs that do.
func mustComeUp(s []impl.Release, needs []impl.Need) ([]bool, []impl.Need) {
	came := make([]bool, len(s))
	for {
		all := slices.Clone(needs)
		for i, x := range s {
			if came[i] {
				all = append(all, x.Needs...)
			}
		}
		more := false
		for i, x := range s {
			if !came[i] && slices.ContainsFunc(all, func(n impl.Need) bool { return mustFit(x, n) }) {
				came[i] = true
				more = true
			}
		}
		if !more {
			return came, all
		}
	}
}

func mustNames(s []impl.Release, needs []impl.Need) []int {
	_, all := mustComeUp(s, needs)
	var names []int
	for _, n := range all {
		names = append(names, n.Name)
	}
	slices.Sort(names)
	return slices.Compact(names)
}

// mustStand tells without impl whether releases that are right one by one stand in order, pair by pair.
func mustStand(s []impl.Release) bool {
	for i, a := range s {
		for _, b := range s[i+1:] {
			if a.Name > b.Name || a.Name == b.Name && !mustLess(a.V, b.V) {
				return false
			}
		}
	}
	return true
}

func checkPut(t *testing.T, s []impl.Release, x impl.Release, must []impl.Release) {
	t.Helper()
	list, ok := impl.ShelfPut(s, x)
	if !ok || !same(list, must) {
		t.Fatalf("ShelfPut(%v, %v) is %v, %v, not %v", s, x, list, ok, must)
	}
	if !impl.ShelfOk(list) {
		t.Fatalf("ShelfPut(%v, %v) is %v, which is none", s, x, list)
	}
}

func checkNotPut(t *testing.T, s []impl.Release, x impl.Release) {
	t.Helper()
	if list, ok := impl.ShelfPut(s, x); ok || len(list) != 0 {
		t.Fatalf("ShelfPut(%v, %v) is %v, %v", s, x, list, ok)
	}
}

func checkNotGone(t *testing.T, s []impl.Release, name int, v impl.Version) {
	t.Helper()
	if list, ok := impl.ShelfGone(s, name, v); ok || len(list) != 0 {
		t.Fatalf("ShelfGone(%v, %d, %v) is %v, %v", s, name, v, list, ok)
	}
}

func checkNames(t *testing.T, s []impl.Release, needs []impl.Need, must ...int) {
	t.Helper()
	if names := impl.ShelfNames(s, needs); !slices.Equal(names, must) {
		t.Fatalf("ShelfNames(%v, %v) is %v, not %v", s, needs, names, must)
	}
}

// The way of chapter 3: a shelf is a row of releases in order. This does not compile if it is anything else.
func TestShelfIsReleases(t *testing.T) {
	type fields struct {
		Name  int
		V     impl.Version
		Gone  bool
		Needs []impl.Need
	}
	type rest struct {
		Name int
		R    impl.Range
	}
	s, _ := impl.ShelfPut(nil, release(1, major(2), needAny(3)))
	x := fields(s[0])
	if n := rest(x.Needs[0]); x.Name != 1 || n.Name != 3 {
		t.Error("a shelf is not its releases")
	}
}

func TestShelfConstants(t *testing.T) {
	if impl.NameTop != 7 || impl.ShelfMost != 30 || impl.NeedMost != 5 {
		t.Error(impl.NameTop, impl.ShelfMost, impl.NeedMost)
	}
}

// P50: no needs are fine, and so are needs in order, at all bounds.
func TestNeeds(t *testing.T) {
	list := [][]impl.Need{
		nil, {}, needsAny(0), needsAny(7), needsAny(0, 7), needsAny(0, 1, 2, 3, 4), needsAny(3, 4, 5, 6, 7), needsAny(0, 2, 4, 6, 7),
		{need(3, impl.Range{})}, {need(0, impl.Range{}), need(7, impl.Range{})},
	}
	for _, r := range edgeRanges() {
		list = append(list, []impl.Need{need(0, r)}, []impl.Need{needAny(0), need(5, r), needAny(7)})
	}
	for _, needs := range list {
		if !impl.NeedsOk(needs) {
			t.Errorf("NeedsOk(%v) is false", needs)
		}
	}
}

// P50: of all rows of few names those are needs that are in order.
func TestNeedsOfAllNames(t *testing.T) {
	for _, names := range rows([]int{-1, 0, 1, 2, 6, 7, 8}, 4) {
		if impl.NeedsOk(needsAny(names...)) != inOrder(names) {
			t.Errorf("NeedsOk of the names %v is %v", names, !inOrder(names))
		}
	}
}

// P50: of all sets of names those are needs that have at most five.
func TestNeedsOfAllSets(t *testing.T) {
	for mask := 0; mask < 1<<8; mask++ {
		var names []int
		for name := 0; name < 8; name++ {
			if mask>>name&1 == 1 {
				names = append(names, name)
			}
		}
		if impl.NeedsOk(needsAny(names...)) != (len(names) <= 5) {
			t.Errorf("NeedsOk of the names %v is wrong", names)
		}
	}
}

// P50: needs that stand twice are none, whichever of them, and whatever their ranges.
func TestNeedsTwice(t *testing.T) {
	d := &dice{state: 50}
	for i := 0; i < 200; i++ {
		needs := rolledNeeds(d, 4, -1)
		if !impl.NeedsOk(needs) {
			t.Fatalf("NeedsOk(%v) is false", needs)
		}
		for j, n := range needs {
			for _, r := range []impl.Range{n.R, impl.RangeAll(), {}} {
				twice := with(needs, j+d.roll(2), need(n.Name, r))
				if impl.NeedsOk(twice) {
					t.Fatalf("NeedsOk(%v) is true", twice)
				}
			}
		}
	}
}

// P50: what is out of order, too much, or has what is none is not needed, and nothing is told beside it.
func TestNoNeeds(t *testing.T) {
	for _, needs := range notNeeds() {
		if impl.NeedsOk(needs) {
			t.Fatalf("NeedsOk(%v) is true", needs)
		}
		for _, s := range [][]impl.Release{nil, circle(), fullShelf(4)} {
			checkNames(t, s, needs)
			checkNotPut(t, s, release(6, version(1, 0, 0, 7), needs...))
		}
	}
}

// P51: a shelf is one without its first release, and without any other one.
func TestShelfWithoutOne(t *testing.T) {
	for _, s := range okShelves() {
		if !impl.ShelfOk(s) {
			t.Fatalf("ShelfOk(%v) is false", s)
		}
		for i := range s {
			if !impl.ShelfOk(without(s, i)) {
				t.Fatalf("ShelfOk(%v) is false without %d", s, i)
			}
		}
	}
}

// P51: with its first release twice it is none, nor with any other one, wherever that stands, withdrawn or with other needs.
func TestShelfWithOneTwice(t *testing.T) {
	for _, s := range okShelves() {
		for i, x := range s {
			other := release(x.Name, x.V)
			for _, twice := range []impl.Release{x, withdrawn(x), other} {
				for at := 0; at <= len(s); at++ {
					if impl.ShelfOk(with(s, at, twice)) {
						t.Fatalf("ShelfOk(%v) is true with %d twice, at %d", s, i, at)
					}
				}
				checkNotPut(t, s, twice)
			}
		}
	}
}

// P51: no two releases of a shelf can change places.
func TestShelfOutOfOrder(t *testing.T) {
	for _, s := range okShelves() {
		for i := range s {
			for j := range i {
				turned := slices.Clone(s)
				turned[i], turned[j] = turned[j], turned[i]
				if impl.ShelfOk(turned) {
					t.Fatalf("ShelfOk(%v) is true", turned)
				}
			}
		}
	}
}

// P51: of all rows of few releases those are shelves that stand in order.
func TestShelvesOfAllRows(t *testing.T) {
	list := []impl.Release{
		release(0, major(2)), release(0, major(3)), release(1, version(1, 0, 0, 9)), withdrawn(release(1, major(1))),
		release(1, version(1, 0, 1, 1)), release(7, version(0, 0, 0, 1), needAny(1)),
	}
	for _, s := range rows(list, 4) {
		if impl.ShelfOk(s) != mustStand(s) {
			t.Fatalf("ShelfOk(%v) is %v", s, impl.ShelfOk(s))
		}
	}
}

// P51 to P56: what is no shelf is refused by all.
func TestNoShelves(t *testing.T) {
	for _, s := range notShelves() {
		if impl.ShelfOk(s) {
			t.Fatalf("ShelfOk(%v) is true", s)
		}
		x := s[0]
		if at := impl.ShelfAt(s, x.Name, x.V); at != -1 {
			t.Fatalf("ShelfAt(%v, %d, %v) is %d", s, x.Name, x.V, at)
		}
		checkNotPut(t, s, release(5, version(5, 5, 5, 5)))
		checkNotGone(t, s, x.Name, x.V)
		for _, n := range needsAny(0, 1, 2, 3, 6, 7) {
			if fits := impl.ShelfFits(s, n); len(fits) != 0 {
				t.Fatalf("ShelfFits(%v, %v) is %v", s, n, fits)
			}
		}
		checkNames(t, s, nil)
		checkNames(t, s, needsAny(0, 1, 3, 6, 7))
	}
}

// P52: each release is found at its place by its name and its version, withdrawn or not.
func TestShelfAt(t *testing.T) {
	for _, s := range okShelves() {
		for i, x := range s {
			if at := impl.ShelfAt(s, x.Name, x.V); at != i {
				t.Fatalf("ShelfAt(%v, %d, %v) is %d, not %d", s, x.Name, x.V, at, i)
			}
		}
	}
}

// P52: what is found has the name and the version; what is not there is not found, of no name, in no version.
func TestShelfAtWhatIsNotThere(t *testing.T) {
	versions := append(notVersions(), major(0), version(0, 9, 0, 0), version(1, 0, 0, 1), version(1, 0, 0, 2), major(1), version(1, 5, 0, 0), major(2), major(30), major(31))
	for _, s := range okShelves() {
		for _, name := range edgeNames() {
			for _, v := range versions {
				must := slices.IndexFunc(s, func(x impl.Release) bool { return x.Name == name && x.V == v })
				if at := impl.ShelfAt(s, name, v); at != must {
					t.Fatalf("ShelfAt(%v, %d, %v) is %d, not %d", s, name, v, at, must)
				}
				if must == -1 {
					checkNotGone(t, s, name, v)
				}
			}
		}
	}
}

// P53: each release is put where it stood, and all others are as they were.
func TestShelfPut(t *testing.T) {
	for _, s := range okShelves() {
		for i, x := range s {
			checkPut(t, without(s, i), x, s)
			list, _ := impl.ShelfPut(without(s, i), x)
			if at := impl.ShelfAt(list, x.Name, x.V); at != i || !same(list[at], x) {
				t.Fatalf("what was put is at %d", at)
			}
		}
	}
}

// P53: ahead of all others, between, and behind all.
func TestShelfPutPlaces(t *testing.T) {
	a, b, c := release(1, major(1), needAny(7)), withdrawn(release(1, major(3))), release(4, major(1), needsAny(0, 1)...)
	s := []impl.Release{a, b, c}
	checkPut(t, nil, b, []impl.Release{b})
	for _, x := range []impl.Release{release(0, major(9)), release(1, version(0, 9, 0, 0)), release(1, version(1, 0, 0, 9))} {
		checkPut(t, s, x, []impl.Release{x, a, b, c})
	}
	for _, x := range []impl.Release{release(1, version(1, 0, 1, 1)), release(1, major(2), needAny(0)), withdrawn(release(1, version(3, 0, 0, 9)))} {
		checkPut(t, s, x, []impl.Release{a, x, b, c})
	}
	for _, x := range []impl.Release{release(1, major(4)), release(2, major(1)), release(3, major(9)), release(4, version(0, 1, 0, 0))} {
		checkPut(t, s, x, []impl.Release{a, b, x, c})
	}
	for _, x := range []impl.Release{release(4, version(1, 0, 1, 1)), release(5, version(0, 0, 0, 1)), release(7, version(99, 99, 99, 0), needsAny(0, 1, 2, 3, 4)...)} {
		checkPut(t, s, x, []impl.Release{a, b, c, x})
	}
}

// P53: in whichever order releases are put, it is the same shelf.
func TestShelfPutInAnyOrder(t *testing.T) {
	must := []impl.Release{release(0, major(2), needAny(1)), release(1, version(1, 0, 0, 1)), withdrawn(release(1, major(1))), release(6, major(1)), release(6, major(5))}
	orders := rows([]int{0, 1, 2, 3, 4}, 5)
	for _, order := range orders {
		if len(order) < 5 || len(slices.Compact(slices.Sorted(slices.Values(order)))) < 5 {
			continue
		}
		var s []impl.Release
		for _, i := range order {
			s, _ = impl.ShelfPut(s, must[i])
		}
		if !same(s, must) {
			t.Fatalf("in the order %v the shelf is %v", order, s)
		}
	}
}

// P53: a shelf can be filled, and then no more.
func TestShelfPutFull(t *testing.T) {
	full := fullShelf(4)
	for i, x := range full {
		checkPut(t, without(full, i), x, full)
	}
	for _, x := range []impl.Release{release(0, version(0, 1, 0, 0)), release(3, version(2, 5, 0, 0)), release(7, major(9)), full[0], full[29]} {
		checkNotPut(t, full, x)
	}
}

// P53: what can stand on no shelf is not put.
func TestShelfPutNone(t *testing.T) {
	for _, x := range notReleases() {
		for _, s := range edgeShelves() {
			checkNotPut(t, s, x)
		}
	}
}

// P54: a release that is withdrawn is there still, fits no need, and all others are as they were; and it can be withdrawn again.
func TestShelfGone(t *testing.T) {
	for _, s := range okShelves() {
		for i, x := range s {
			must := slices.Clone(s)
			must[i].Gone = true
			list, ok := impl.ShelfGone(s, x.Name, x.V)
			if !ok || !same(list, must) || !impl.ShelfOk(list) {
				t.Fatalf("ShelfGone(%v, %d, %v) is %v, %v", s, x.Name, x.V, list, ok)
			}
			if impl.ShelfAt(list, x.Name, x.V) != i {
				t.Fatalf("what was withdrawn is not there in %v", list)
			}
			for _, r := range []impl.Range{impl.RangeAll(), impl.RangeOne(x.V)} {
				if slices.Contains(impl.ShelfFits(list, need(x.Name, r)), i) {
					t.Fatalf("what was withdrawn fits in %v", list)
				}
			}
			again, ok := impl.ShelfGone(list, x.Name, x.V)
			if !ok || !same(again, must) {
				t.Fatalf("what was withdrawn cannot be so again in %v", list)
			}
			checkNotPut(t, list, x)
		}
	}
}

// P54: when all of a name was withdrawn, nothing fits, and what only that needs does not come up.
func TestAllGone(t *testing.T) {
	s := []impl.Release{release(1, major(1), needAny(4)), release(1, major(2), needAny(5)), release(2, major(1), needAny(6))}
	checkNames(t, s, needsAny(1, 2), 1, 2, 4, 5, 6)
	s, _ = impl.ShelfGone(s, 1, major(2))
	checkNames(t, s, needsAny(1, 2), 1, 2, 4, 6)
	s, _ = impl.ShelfGone(s, 1, major(1))
	checkNames(t, s, needsAny(1, 2), 1, 2, 6)
	if fits := impl.ShelfFits(s, needAny(1)); len(fits) != 0 {
		t.Errorf("what was withdrawn fits: %v", fits)
	}
}

// P55: what fits a need of all versions is what fits a range, or what is not in it.
func TestShelfFits(t *testing.T) {
	ranges := append(edgeRanges(), rangeOf(span(0, 100009)), rangeOf(span(100010, 9999999)), impl.RangeOne(major(1)), impl.RangeFrom(major(2)))
	for _, s := range okShelves() {
		for name := 0; name <= 7; name++ {
			all := impl.ShelfFits(s, needAny(name))
			for _, r := range ranges {
				in := impl.ShelfFits(s, need(name, r))
				if must := mustFits(s, need(name, r)); !slices.Equal(in, must) {
					t.Fatalf("ShelfFits(%v, %d, %v) is %v, not %v", s, name, r, in, must)
				}
				not, ok := impl.RangeNot(r)
				if !ok {
					continue
				}
				both := slices.Concat(in, impl.ShelfFits(s, need(name, not)))
				slices.Sort(both)
				if !slices.Equal(both, all) {
					t.Fatalf("in the range or not in it are %v of %v in %v", both, all, s)
				}
			}
		}
	}
}

// P55: the places are in order, and those of the name alone.
func TestKnownFits(t *testing.T) {
	s := []impl.Release{
		release(1, major(1)), release(2, version(1, 0, 0, 1)), release(2, major(1)), withdrawn(release(2, version(1, 1, 0, 0))), release(2, version(1, 2, 0, 0)), release(2, major(2)), release(3, major(1)),
	}
	for _, x := range []struct {
		n    impl.Need
		must []int
	}{
		{needAny(2), []int{1, 2, 4, 5}},
		{need(2, impl.RangeFrom(major(1))), []int{2, 4}},
		{need(2, impl.RangeOne(version(1, 1, 0, 0))), nil},
		{need(2, impl.RangeOne(major(2))), []int{5}},
		{need(2, impl.Range{}), nil},
		{needAny(0), nil},
		{needAny(7), nil},
		{needAny(3), []int{6}},
	} {
		if fits := impl.ShelfFits(s, x.n); !slices.Equal(fits, x.must) {
			t.Errorf("ShelfFits of %v is %v, not %v", x.n, fits, x.must)
		}
	}
}

// P55: nothing fits what is no need.
func TestFitsOfNoNeed(t *testing.T) {
	for _, s := range edgeShelves() {
		for _, name := range []int{-1, 8, math.MinInt, math.MaxInt} {
			if fits := impl.ShelfFits(s, needAny(name)); len(fits) != 0 {
				t.Fatalf("ShelfFits of the name %d is %v", name, fits)
			}
		}
		for _, none := range notRanges() {
			for name := 0; name <= 7; name++ {
				if fits := impl.ShelfFits(s, need(name, none)); len(fits) != 0 {
					t.Fatalf("ShelfFits of %v is %v", none, fits)
				}
			}
		}
	}
}

// P56: names come up by needs, in a circle, without releases, and not by what does not fit or was withdrawn.
func TestKnownNames(t *testing.T) {
	checkNames(t, nil, nil)
	checkNames(t, circle(), nil)
	checkNames(t, fullShelf(4), nil)
	checkNames(t, nil, needsAny(0, 7), 0, 7)
	checkNames(t, nil, needsAny(1, 2, 3, 4, 5), 1, 2, 3, 4, 5)
	checkNames(t, nil, []impl.Need{need(2, impl.Range{})}, 2)
	for _, name := range []int{0, 3, 7} {
		checkNames(t, circle(), needsAny(name), 0, 3, 7)
	}
	checkNames(t, circle(), needsAny(5), 5)
	checkNames(t, circle(), []impl.Need{need(0, impl.RangeFrom(major(2)))}, 0)
	s := []impl.Release{
		release(0, major(1), needAny(1)), release(0, major(2), needAny(2)), withdrawn(release(0, major(3), needAny(3))),
		release(2, major(1), need(4, impl.RangeOne(major(2)))),
		release(4, major(1), needAny(5)), release(4, major(2), needAny(6)), release(4, major(3), needAny(7)),
	}
	checkNames(t, s, needsAny(0), 0, 1, 2, 4, 6)
	checkNames(t, s, []impl.Need{need(0, impl.RangeOne(major(1)))}, 0, 1)
	checkNames(t, s, []impl.Need{need(0, impl.RangeOne(major(2)))}, 0, 2, 4, 6)
	checkNames(t, s, []impl.Need{need(0, impl.RangeOne(major(3)))}, 0)
	checkNames(t, s, []impl.Need{need(0, impl.Range{}), needAny(4)}, 0, 4, 5, 6, 7)
	checkNames(t, s, needsAny(0, 4), 0, 1, 2, 4, 5, 6, 7)
	checkNames(t, s, needsAny(1, 3), 1, 3)
}

// P56: a release comes up by a need of its name that it fits, though another one of the name came up before.
func TestNamesOfLaterNeeds(t *testing.T) {
	s := []impl.Release{
		release(0, major(1), needAny(2)), release(0, major(2), needAny(5)),
		release(2, major(1), need(0, impl.RangeOne(major(2)))), release(5, major(1), needAny(7)),
	}
	checkNames(t, s, []impl.Need{need(0, impl.RangeOne(major(1)))}, 0, 2, 5, 7)
	checkNames(t, s, []impl.Need{need(0, impl.RangeOne(major(2)))}, 0, 5, 7)
}

// P56: a row of needs, each release needing the next name, is followed to its end, in whichever direction the names lead.
func TestNamesOfLongRows(t *testing.T) {
	var up, down []impl.Release
	for name := 0; name < 7; name++ {
		up = append(up, release(name, major(1), needAny(name+1)))
		down = append(down, release(name+1, major(1), needAny(name)))
	}
	checkNames(t, up, needsAny(0), 0, 1, 2, 3, 4, 5, 6, 7)
	checkNames(t, up, needsAny(5), 5, 6, 7)
	checkNames(t, down, needsAny(7), 0, 1, 2, 3, 4, 5, 6, 7)
	checkNames(t, down, needsAny(2), 0, 1, 2)
}

// P56: all that comes up does round by round, and from the releases of these names that fit nothing more does.
func TestAllThatComesUp(t *testing.T) {
	d := &dice{state: 56}
	for _, s := range append(okShelves(), rolledShelves(400)...) {
		needs := rolledNeeds(d, 5, -1)
		checkNames(t, s, needs, mustNames(s, needs)...)
		names := impl.ShelfNames(s, needs)
		came, all := mustComeUp(s, needs)
		for i, x := range s {
			if came[i] && !slices.Contains(names, x.Name) {
				t.Fatalf("%v comes up in %v, and its name does not", x, s)
			}
			for _, n := range x.Needs {
				if came[i] && !slices.Contains(names, n.Name) {
					t.Fatalf("%v is needed in %v, and does not come up", n, s)
				}
			}
		}
		for _, name := range names {
			if !slices.ContainsFunc(all, func(n impl.Need) bool { return n.Name == name }) {
				t.Fatalf("%d comes up in %v, and nobody needs it", name, s)
			}
		}
	}
}

// P50 to P56: what is handed in is left as it was, and what is handed out shares no memory with it.
func TestShelvesShareNothing(t *testing.T) {
	x := release(5, version(5, 5, 5, 5), need(1, comb(0, 2, 1, 3)), needAny(2))
	for _, old := range append(okShelves()[:40], notShelves()[:30]...) {
		for _, oldNeeds := range [][]impl.Need{nil, needsAny(0, 1, 2, 3, 4), needsAny(1, 0)} {
			s, needs, put := handed(old), handed(oldNeeds), handed(x)
			was := wholeText(s, needs, put)
			args := []any{s, needs, put}
			answers := []any{impl.ShelfNames(s, needs)}
			for _, n := range needs {
				answers = append(answers, impl.ShelfFits(s, n))
			}
			more, _ := impl.ShelfPut(s, put)
			less, _ := impl.ShelfPut(more, put)
			answers = append(answers, more, less)
			for _, y := range s {
				impl.ShelfAt(s, y.Name, y.V)
				gone, _ := impl.ShelfGone(s, y.Name, y.V)
				answers = append(answers, gone)
			}
			impl.ShelfOk(s)
			impl.NeedsOk(needs)
			checkMemory(t, "a shelf", was, args, answers)
		}
	}
}
