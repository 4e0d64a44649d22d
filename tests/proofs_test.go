package tests

import (
	"math"
	"slices"
	"testing"

	"loop.example/packageworld/impl"
)

func term(name int, r impl.Range) impl.Term {
	return impl.Term{Name: name, R: r}
}

func termOff(name int, r impl.Range) impl.Term {
	return impl.Term{Name: name, R: r, Off: true}
}

// termAll holds whatever is picked of a name.
func termAll(name int) impl.Term {
	return termOff(name, impl.RangeAll())
}

// terms are terms of names, all of the version 1.0.0.
func terms(names ...int) []impl.Term {
	var c []impl.Term
	for _, name := range names {
		c = append(c, term(name, impl.RangeOne(major(1))))
	}
	return c
}

func stepNeed(at int) impl.Step {
	return impl.Step{Kind: impl.StepNeed, A: at}
}

func stepRelease(at int, n int) impl.Step {
	return impl.Step{Kind: impl.StepRelease, A: at, B: n}
}

func stepShelf(name int) impl.Step {
	return impl.Step{Kind: impl.StepShelf, Name: name}
}

func stepJoin(a int, b int, name int) impl.Step {
	return impl.Step{Kind: impl.StepJoin, A: a, B: b, Name: name}
}

// stepsOf are all steps that have a clash by themselves.
func stepsOf(s []impl.Release, needs []impl.Need) []impl.Step {
	var list []impl.Step
	for i := range needs {
		list = append(list, stepNeed(i))
	}
	for i, x := range s {
		for j := range x.Needs {
			list = append(list, stepRelease(i, j))
		}
	}
	for name := 0; name < 8; name++ {
		list = append(list, stepShelf(name))
	}
	return list
}

// edgeClashes have all bounds that a clash can have.
func edgeClashes() [][]impl.Term {
	list := [][]impl.Term{
		nil, {}, terms(0), terms(7), terms(0, 7), terms(0, 1, 2, 3, 4, 5, 6, 7),
		{termAll(0)}, {termAll(0), termAll(7)}, {term(3, impl.RangeAll())}, {term(3, impl.Range{})}, {termOff(3, impl.Range{})},
		{termAll(0), termOff(1, impl.Range{}), term(2, impl.Range{}), term(3, impl.RangeAll()), termAll(4), termAll(5), term(6, impl.RangeFrom(major(1))), termAll(7)},
	}
	for _, r := range edgeRanges() {
		list = append(list, []impl.Term{term(0, r)}, []impl.Term{termOff(7, r)}, []impl.Term{termOff(2, r), term(5, r)})
	}
	return list
}

// rolledClash has few or many terms, now and then of many spans.
func rolledClash(d *dice) []impl.Term {
	var c []impl.Term
	often := 1 + d.roll(4)
	for name := 0; name < 8; name++ {
		if d.roll(5) >= often {
			continue
		}
		r := rolledRange(d)
		if d.roll(9) == 0 {
			r = comb(d.roll(3), 2+d.roll(3), 1, 1+d.roll(40))
		}
		c = append(c, impl.Term{Name: name, R: r, Off: d.roll(2) == 0})
	}
	return c
}

func rolledClashes(seed uint64, many int) [][]impl.Term {
	d := &dice{state: seed}
	var list [][]impl.Term
	for i := 0; i < many; i++ {
		list = append(list, rolledClash(d))
	}
	return list
}

// notClashes are rows that are no clash, however right their parts may be.
func notClashes() [][]impl.Term {
	list := [][]impl.Term{
		terms(-1), terms(8), terms(math.MinInt), terms(math.MaxInt), terms(-1, 0), terms(7, 8), terms(0, math.MaxInt), terms(math.MinInt, 0),
		terms(1, 0), terms(7, 0), terms(0, 2, 1), terms(1, 2, 0), terms(7, 6, 5, 4, 3, 2, 1, 0),
		terms(0, 0), terms(7, 7), terms(1, 1, 2), terms(1, 2, 2), terms(0, 1, 0), terms(0, 1, 2, 3, 4, 5, 6, 7, 7), terms(0, 0, 1, 2, 3, 4, 5, 6, 7), terms(0, 1, 2, 3, 4, 5, 6, 7, 8),
		{termAll(1), termAll(1)}, {term(1, impl.Range{}), termOff(1, impl.Range{})}, {term(1, impl.RangeOne(major(1))), term(1, impl.RangeOne(major(2)))},
		{termAll(3), termAll(2)}, {termAll(-1)}, {termAll(8)},
	}
	for _, none := range notRanges() {
		list = append(list, []impl.Term{term(3, none)}, []impl.Term{termOff(0, none), termAll(3)}, []impl.Term{termAll(0), termAll(1), term(7, none)})
	}
	return list
}

// notSteps are steps without a clash, with whatever shelf and needs; those of StepJoin have none without steps before them.
func notSteps() []impl.Step {
	var list []impl.Step
	for _, kind := range []int{-1, 4, 5, math.MinInt, math.MaxInt} {
		list = append(list, impl.Step{Kind: kind}, impl.Step{Kind: kind, Name: 3}, impl.Step{Kind: kind, A: 1, B: 1})
	}
	for _, far := range []int{math.MinInt, -1000, -1, 30, 31, 1000, math.MaxInt} {
		list = append(list,
			stepNeed(far), stepRelease(far, 0), stepRelease(0, far), stepRelease(far, far), stepShelf(far),
			stepJoin(far, 0, 0), stepJoin(0, far, 0), stepJoin(far, far, 0),
			// What is not used is not 0.
			impl.Step{Kind: impl.StepNeed, B: far}, impl.Step{Kind: impl.StepNeed, Name: far}, impl.Step{Kind: impl.StepRelease, Name: far},
			impl.Step{Kind: impl.StepShelf, A: far}, impl.Step{Kind: impl.StepShelf, B: far},
		)
	}
	for _, little := range []int{1, 2, 7} {
		list = append(list,
			impl.Step{Kind: impl.StepNeed, B: little}, impl.Step{Kind: impl.StepNeed, Name: little}, impl.Step{Kind: impl.StepRelease, Name: little},
			impl.Step{Kind: impl.StepShelf, A: little}, impl.Step{Kind: impl.StepShelf, B: little}, impl.Step{Kind: impl.StepShelf, A: little, B: little, Name: 1},
			impl.Step{Kind: impl.StepRelease, A: 1, Name: little}, impl.Step{Kind: impl.StepNeed, A: 1, B: little},
		)
	}
	return append(list, stepNeed(5), stepRelease(0, 5), stepShelf(8), stepJoin(0, 0, 0))
}

// hardShelf is a shelf of names below one, each in so many versions, of which not many choices are fine: each release needs others in some of their versions.
func hardShelf(d *dice, names int, each int) []impl.Release {
	var s []impl.Release
	for name := 0; name < names; name++ {
		for v := 1; v <= each && len(s) < 30; v++ {
			var needs []impl.Need
			for other := 0; other < names; other++ {
				if other != name && len(needs) < 5 && d.roll(2) == 0 {
					needs = append(needs, need(other, rolledVersions(d, each)))
				}
			}
			x := release(name, major(v), needs...)
			x.Gone = d.roll(12) == 0
			s = append(s, x)
		}
	}
	return s
}

// rolledVersions is a range of about half of some versions.
func rolledVersions(d *dice, each int) impl.Range {
	var r impl.Range
	for v := 1; v <= each; v++ {
		if d.roll(2) == 0 {
			rank := impl.VersionRank(major(v))
			r.Spans = append(r.Spans, span(rank, rank))
		}
	}
	return r
}

func hardQuestions(many int) []question {
	d := &dice{state: 4}
	var list []question
	for i := 0; i < many; i++ {
		names := 2 + i%7
		s := hardShelf(d, names, 1+d.roll(30/names))
		list = append(list, question{s: s, needs: needsAny(d.roll(names-1), names-1)})
	}
	return list
}

// proofQuestions are of all kinds of shelves.
func proofQuestions() []question {
	list := append(smallShelves(1600), largeShelves(800)...)
	list = append(list, plantedChoices(200)...)
	for i := range list {
		list[i].held = nil
	}
	return append(list, hardQuestions(400)...)
}

// rolledProof has steps with clashes, at most so many behind others that have some.
func rolledProof(d *dice, q question, steps []impl.Step, many int) []impl.Step {
	all := stepsOf(q.s, q.needs)
	clashes, _ := mustRun(q.s, q.needs, steps)
	for i := 0; i < many; i++ {
		x := all[d.roll(len(all))]
		if len(steps) > 0 && d.roll(2) == 0 {
			x = stepJoin(d.roll(len(steps)), d.roll(len(steps)), d.roll(8))
		}
		if c, ok := mustNext(q.s, q.needs, clashes, x); ok && !tooWide(c) {
			steps = append(steps, x)
			clashes = append(clashes, c)
		}
	}
	return steps
}

func checkHits(t *testing.T, c []impl.Term, p []impl.Pick, must bool) {
	t.Helper()
	if impl.ClashHits(c, p) != must {
		t.Fatalf("ClashHits(%v, %v) is %v", c, p, !must)
	}
}

// checkClash holds what is told of a clash against what must be, which may have too many spans.
func checkClash(t *testing.T, what string, c []impl.Term, ok bool, must []impl.Term, mustOk bool) {
	t.Helper()
	if !mustOk || tooWide(must) {
		if ok || len(c) != 0 {
			t.Fatalf("%s is %v, %v", what, c, ok)
		}
		return
	}
	if !ok || !same(c, must) {
		t.Fatalf("%s is %v, %v, not %v", what, c, ok, must)
	}
	if !impl.ClashOk(c) {
		t.Fatalf("%s is %v, which is none", what, c)
	}
}

func checkClashOf(t *testing.T, s []impl.Release, needs []impl.Need, x impl.Step) {
	t.Helper()
	c, ok := impl.ClashOf(s, needs, x)
	must, mustOk := mustClash(s, needs, x)
	checkClash(t, "ClashOf", c, ok, must, mustOk)
}

func checkNoClashOf(t *testing.T, s []impl.Release, needs []impl.Need, x impl.Step) {
	t.Helper()
	if c, ok := impl.ClashOf(s, needs, x); ok || len(c) != 0 {
		t.Fatalf("ClashOf(%v, %v, %v) is %v, %v", s, needs, x, c, ok)
	}
}

func checkKnownClash(t *testing.T, s []impl.Release, needs []impl.Need, x impl.Step, must ...impl.Term) {
	t.Helper()
	c, ok := impl.ClashOf(s, needs, x)
	checkClash(t, "ClashOf", c, ok, must, true)
}

func checkJoin(t *testing.T, a []impl.Term, b []impl.Term, name int, must []impl.Term, mustOk bool) {
	t.Helper()
	c, ok := impl.ClashJoin(a, b, name)
	checkClash(t, "ClashJoin", c, ok, must, mustOk)
	c, ok = impl.ClashJoin(b, a, name)
	checkClash(t, "ClashJoin the other way round", c, ok, must, mustOk)
}

// checkRun holds what is told of steps against what must be, and whether that is a proof.
func checkRun(t *testing.T, s []impl.Release, needs []impl.Need, steps []impl.Step) {
	t.Helper()
	clashes, ok := impl.ProofRun(s, needs, steps)
	must, mustOk := mustRun(s, needs, steps)
	if !mustOk {
		must = nil
	}
	if ok != mustOk || !same(clashes, must) {
		t.Fatalf("ProofRun(%v, %v, %v) is %v, %v, not %v, %v", s, needs, steps, clashes, ok, must, mustOk)
	}
	proof := mustOk && len(must) > 0 && len(must[len(must)-1]) == 0
	if impl.ProofOk(s, needs, steps) != proof {
		t.Fatalf("ProofOk(%v, %v, %v) is %v", s, needs, steps, !proof)
	}
}

func checkNoRun(t *testing.T, s []impl.Release, needs []impl.Need, steps []impl.Step) {
	t.Helper()
	if clashes, ok := impl.ProofRun(s, needs, steps); ok || len(clashes) != 0 {
		t.Fatalf("ProofRun(%v, %v, %v) is %v, %v", s, needs, steps, clashes, ok)
	}
	if impl.ProofOk(s, needs, steps) {
		t.Fatalf("ProofOk(%v, %v, %v) is true", s, needs, steps)
	}
}

// checkRefuted holds just what is told as a proof, and that it is one, which needs its last step.
func checkRefuted(t *testing.T, q question, must ...impl.Step) {
	t.Helper()
	steps, ok := impl.Refute(q.s, q.needs)
	if !ok || !slices.Equal(steps, must) {
		t.Fatalf("Refute(%v, %v) is %v, %v, not %v", q.s, q.needs, steps, ok, must)
	}
	checkRun(t, q.s, q.needs, steps)
	if !impl.ProofOk(q.s, q.needs, steps) {
		t.Fatalf("Refute(%v, %v) is %v, which proves nothing", q.s, q.needs, steps)
	}
	for many := range steps {
		if impl.ProofOk(q.s, q.needs, steps[:many]) {
			t.Fatalf("Refute(%v, %v) is %v, and %d steps are enough", q.s, q.needs, steps, many)
		}
	}
}

func checkNotRefuted(t *testing.T, q question) {
	t.Helper()
	if steps, ok := impl.Refute(q.s, q.needs); ok || len(steps) != 0 {
		t.Fatalf("Refute(%v, %v) is %v, %v", q.s, q.needs, steps, ok)
	}
}

// checkRefute holds what is told as a proof against what the document has found.
func checkRefute(t *testing.T, q question) refuted {
	t.Helper()
	must := mustRefute(q)
	if must.is {
		checkRefuted(t, q, must.steps...)
	} else {
		checkNotRefuted(t, q)
	}
	return must
}

// The way of chapter 6: a clash is a row of terms in order. This does not compile if it is anything else.
func TestClashIsTerms(t *testing.T) {
	type fields struct {
		Name int
		R    impl.Range
		Off  bool
	}
	type numbers struct{ Kind, A, B, Name int }
	var c []impl.Term
	c, _ = impl.ClashOf(nil, needsAny(2), stepNeed(0))
	if x := fields(c[0]); x.Name != 2 || !x.Off || len(x.R.Spans) != 0 {
		t.Error("a clash is not its terms")
	}
	if x := numbers(stepJoin(1, 2, 5)); x != (numbers{3, 1, 2, 5}) {
		t.Error("a step is not its numbers")
	}
}

func TestStepConstants(t *testing.T) {
	told := []int{impl.StepNeed, impl.StepRelease, impl.StepShelf, impl.StepJoin, impl.StepMost}
	if !slices.Equal(told, []int{0, 1, 2, 3, 300}) {
		t.Error(told)
	}
}

// P65: no terms are a clash, and so are terms in order, at all bounds.
func TestClashes(t *testing.T) {
	for _, c := range append(edgeClashes(), rolledClashes(65, 300)...) {
		if !impl.ClashOk(c) {
			t.Errorf("ClashOk(%v) is false", c)
		}
	}
}

// P65: of all rows of few names those are a clash that are in order.
func TestClashesOfAllNames(t *testing.T) {
	for _, names := range rows([]int{-1, 0, 1, 2, 6, 7, 8}, 4) {
		if impl.ClashOk(terms(names...)) != inOrder(names) {
			t.Errorf("ClashOk of the names %v is %v", names, !inOrder(names))
		}
	}
}

// P65: terms of all sets of names are a clash, up to NameTop + 1 of them; and they are none if one of them stands twice, with whatever it is.
func TestTermsTwice(t *testing.T) {
	for mask := 0; mask < 1<<8; mask++ {
		var c []impl.Term
		for name := 0; name < 8; name++ {
			if mask>>name&1 == 1 {
				c = append(c, impl.Term{Name: name, R: rangeOf(span(name, name+mask)), Off: mask%3 == 0})
			}
		}
		if !impl.ClashOk(c) {
			t.Fatalf("ClashOk(%v) is false", c)
		}
		for i, x := range c {
			for _, twice := range []impl.Term{x, termAll(x.Name), term(x.Name, impl.Range{})} {
				for at := 0; at <= len(c); at++ {
					if impl.ClashOk(with(c, at, twice)) {
						t.Fatalf("ClashOk(%v) is true with %d twice, at %d", c, i, at)
					}
				}
			}
		}
	}
}

// P65, P66 and P68: what is no clash is hit by nobody, and nothing follows from it.
func TestNoClashes(t *testing.T) {
	for _, c := range notClashes() {
		if impl.ClashOk(c) {
			t.Fatalf("ClashOk(%v) is true", c)
		}
		for _, p := range [][]impl.Pick{nil, picks(0), picks(0, 1, 2, 3, 4, 5, 6, 7), {pick(1, major(2))}} {
			checkHits(t, c, p, false)
		}
		for _, name := range edgeNames() {
			checkJoin(t, c, []impl.Term{termAll(0), termAll(1), termAll(2), termAll(3), termAll(7)}, name, nil, false)
			checkJoin(t, c, c, name, nil, false)
		}
	}
}

// P66: a clash without terms is hit by all picks.
func TestHitWithoutTerms(t *testing.T) {
	for _, p := range okPicks() {
		checkHits(t, nil, p, true)
		checkHits(t, []impl.Term{}, p, true)
	}
}

// P66: a clash is hit just if all of its terms hold, and then it is hit without any of them.
func TestHits(t *testing.T) {
	d := &dice{state: 66}
	hit, not := 0, 0
	for _, c := range append(edgeClashes(), rolledClashes(66, 1500)...) {
		for i := 0; i < 20; i++ {
			p := rolledPicks(d, rolledShelf(d, 8))
			must := mustHit(c, p)
			checkHits(t, c, p, must)
			if !must {
				not++
				continue
			}
			hit++
			for at := range c {
				checkHits(t, without(c, at), p, true)
			}
		}
	}
	if hit < 1000 || not < 1000 {
		t.Errorf("a clash is hit %d times only, or not %d times", hit, not)
	}
}

// P66: a term holds by the version that is picked, or by none, if it is Off; whatever else is picked.
func TestKnownHits(t *testing.T) {
	one := impl.RangeOne(major(1))
	for _, x := range []struct {
		c    []impl.Term
		p    []impl.Pick
		must bool
	}{
		{[]impl.Term{term(3, one)}, picks(3), true},
		{[]impl.Term{term(3, one)}, picks(0, 3, 7), true},
		{[]impl.Term{term(3, one)}, nil, false},
		{[]impl.Term{term(3, one)}, picks(0, 2, 4, 7), false},
		{[]impl.Term{term(3, one)}, []impl.Pick{pick(3, version(1, 0, 0, 9))}, false},
		{[]impl.Term{termOff(3, one)}, picks(3), true},
		{[]impl.Term{termOff(3, one)}, nil, true},
		{[]impl.Term{termOff(3, one)}, picks(2, 4), true},
		{[]impl.Term{termOff(3, one)}, []impl.Pick{pick(3, major(2))}, false},
		// With nothing in its range a term holds where none is picked, or never.
		{[]impl.Term{termOff(3, impl.Range{})}, nil, true},
		{[]impl.Term{termOff(3, impl.Range{})}, picks(3), false},
		{[]impl.Term{term(3, impl.Range{})}, nil, false},
		{[]impl.Term{term(3, impl.Range{})}, picks(3), false},
		// With all versions in its range it holds where one is picked, or always.
		{[]impl.Term{term(3, impl.RangeAll())}, nil, false},
		{[]impl.Term{term(3, impl.RangeAll())}, []impl.Pick{pick(3, version(0, 0, 0, 1))}, true},
		{[]impl.Term{term(3, impl.RangeAll())}, []impl.Pick{pick(3, version(99, 99, 99, 0))}, true},
		{[]impl.Term{termAll(3)}, nil, true},
		{[]impl.Term{termAll(3)}, picks(3), true},
		// All terms have to hold.
		{[]impl.Term{term(0, one), termOff(7, one)}, picks(0), true},
		{[]impl.Term{term(0, one), termOff(7, one)}, picks(0, 7), true},
		{[]impl.Term{term(0, one), termOff(7, one)}, picks(7), false},
		{[]impl.Term{term(0, one), termOff(7, one)}, []impl.Pick{pick(0, major(1)), pick(7, major(2))}, false},
		{terms(0, 1, 2, 3, 4, 5, 6, 7), picks(0, 1, 2, 3, 4, 5, 6, 7), true},
		{terms(0, 1, 2, 3, 4, 5, 6, 7), picks(0, 1, 2, 3, 4, 5, 6), false},
	} {
		checkHits(t, x.c, x.p, x.must)
		if mustHit(x.c, x.p) != x.must {
			t.Errorf("%v hit %v: %v is wrong", x.p, x.c, x.must)
		}
	}
}

// P66: what is no picks hits nothing, not even a clash without terms.
func TestNoPicksHit(t *testing.T) {
	for _, p := range notPicks() {
		for _, c := range [][]impl.Term{nil, {termAll(0)}, {termAll(3)}, terms(0, 1), {termAll(0), termAll(1), termAll(2), termAll(3), termAll(4), termAll(5), termAll(6), termAll(7)}} {
			checkHits(t, c, p, false)
		}
	}
}

// P67: a step has the clash that the shelf and the needs have it, of all steps there are and some that there are not.
func TestClashOf(t *testing.T) {
	for _, q := range proofQuestions()[:1000] {
		for _, x := range stepsOf(q.s, q.needs) {
			checkClashOf(t, q.s, q.needs, x)
		}
		for _, x := range notSteps() {
			checkNoClashOf(t, q.s, q.needs, x)
		}
		for far := range 3 {
			checkNoClashOf(t, q.s, q.needs, stepNeed(len(q.needs)+far))
			checkNoClashOf(t, q.s, q.needs, stepRelease(len(q.s)+far, 0))
			for i, x := range q.s {
				checkNoClashOf(t, q.s, q.needs, stepRelease(i, len(x.Needs)+far))
			}
		}
	}
}

// P67: of all rows of few numbers those steps have a clash that are of a need, a need of a release, or a name.
func TestClashOfAllSteps(t *testing.T) {
	s := []impl.Release{release(0, major(1)), release(1, major(1), needAny(0), need(3, impl.Range{})), withdrawn(release(6, major(1), needsAny(0, 1, 2, 3, 4)...))}
	needs := needsAny(1, 6)
	few := []int{-1, 0, 1, 2, 3, 4, 5, 7, 8}
	has := 0
	for _, kind := range []int{-1, 0, 1, 2, 3, 4} {
		for _, a := range few {
			for _, b := range few {
				for _, name := range few {
					x := impl.Step{Kind: kind, A: a, B: b, Name: name}
					checkClashOf(t, s, needs, x)
					if _, ok := impl.ClashOf(s, needs, x); ok {
						has++
					}
				}
			}
		}
	}
	// Two needs, seven needs of releases, and of the eight names all but 6, which is not tried.
	if has != 2+7+len(few)-2 {
		t.Errorf("%d steps have a clash", has)
	}
}

// P67: the clash of each kind, written out by hand.
func TestKnownClashes(t *testing.T) {
	s := []impl.Release{
		release(1, version(1, 0, 0, 9)), release(1, major(1), need(0, impl.RangeOne(major(2))), need(5, impl.RangeAll())), withdrawn(release(1, major(2), needAny(7))), release(1, major(3)),
		withdrawn(release(4, major(1))),
	}
	needs := []impl.Need{need(2, rangeOf(span(5, 9), span(20, 9999999))), needAny(3), need(6, impl.Range{})}
	checkKnownClash(t, s, needs, stepNeed(0), termOff(2, rangeOf(span(0, 4), span(10, 19))))
	checkKnownClash(t, s, needs, stepNeed(1), termOff(3, impl.Range{}))
	// A term that covers everything is left out where clashes are joined, and not here.
	checkKnownClash(t, s, needs, stepNeed(2), termAll(6))
	checkKnownClash(t, s, needs, stepRelease(1, 0), termOff(0, rangeOf(span(0, 200008), span(200010, 9999999))), term(1, rangeOf(span(100009, 100009))))
	checkKnownClash(t, s, needs, stepRelease(1, 1), term(1, rangeOf(span(100009, 100009))), termOff(5, impl.Range{}))
	// What was withdrawn needs what it needed, and is not there.
	checkKnownClash(t, s, needs, stepRelease(2, 0), term(1, rangeOf(span(200009, 200009))), termOff(7, impl.Range{}))
	checkKnownClash(t, s, needs, stepShelf(1), term(1, rangeOf(span(0, 100007), span(100010, 300008), span(300010, 9999999))))
	for _, name := range []int{0, 2, 3, 4, 5, 6, 7} {
		checkKnownClash(t, s, needs, stepShelf(name), term(name, impl.RangeAll()))
		checkKnownClash(t, nil, nil, stepShelf(name), term(name, impl.RangeAll()))
	}
	ends := []impl.Release{release(0, version(0, 0, 0, 1)), release(0, version(0, 0, 0, 2)), release(0, version(99, 99, 99, 0))}
	checkKnownClash(t, ends, nil, stepShelf(0), term(0, rangeOf(span(2, 9999998))))
	checkClashOf(t, fullShelf(30), nil, stepShelf(0))
	checkClashOf(t, fullShelf(4), nil, stepShelf(7))
}

// P67: what is not in a range of 40 spans may have one more, and then there is no clash.
func TestClashOfManySpans(t *testing.T) {
	for _, r := range append(edgeRanges(), comb(1, 2, 1, 40), combToTop(2, 1, 40)) {
		s := []impl.Release{release(0, major(1), need(4, r), needAny(5)), release(7, major(1), need(4, r))}
		needs := []impl.Need{needAny(0), need(4, r)}
		for _, x := range stepsOf(s, needs) {
			checkClashOf(t, s, needs, x)
		}
	}
	wide := comb(1, 2, 1, 40)
	s := []impl.Release{release(0, major(1), need(4, wide))}
	checkNoClashOf(t, s, nil, stepRelease(0, 0))
	checkNoClashOf(t, nil, []impl.Need{need(4, wide)}, stepNeed(0))
	checkKnownClash(t, s, needsAny(2), stepNeed(0), termOff(2, impl.Range{}))
}

// P67: picks that are there hit no clash of a step just if nothing is wrong with them as a choice, but that they may not all be needed; and what is not there, or was withdrawn, hits that of its name.
func TestClashesTellFaults(t *testing.T) {
	seen := map[int]int{}
	d := &dice{state: 67}
	for _, q := range append(smallQuestions()[:12000], rolledQuestions()...) {
		if d.roll(20) == 0 {
			q.c = rolledPicks(d, rolledShelf(d, 8))
		}
		hit := false
		for _, x := range stepsOf(q.s, q.needs) {
			c, ok := impl.ClashOf(q.s, q.needs, x)
			if !ok {
				t.Fatalf("ClashOf(%v, %v, %v) is nothing", q.s, q.needs, x)
			}
			hit = hit || impl.ClashHits(c, q.c)
		}
		fault := impl.ChoiceFault(q.s, q.needs, nil, q.c)
		seen[fault]++
		if hit != (fault != impl.FaultFine && fault != impl.FaultIdle) {
			t.Fatalf("%v of %v for %v is %d, and hits a clash: %v", q.c, q.s, q.needs, fault, hit)
		}
	}
	for fault := impl.FaultAbsent; fault <= impl.FaultIdle; fault++ {
		if seen[fault] < 50 || seen[impl.FaultFine] < 50 {
			t.Errorf("fault %d is seen %d times only", fault, seen[fault])
		}
	}
}

// P67: of what is no shelf and no needs no step has a clash.
func TestClashOfNothing(t *testing.T) {
	for _, s := range notShelves() {
		for _, x := range append(stepsOf(s, needsAny(0, 1)), notSteps()...) {
			checkNoClashOf(t, s, needsAny(0, 1), x)
		}
	}
	for _, needs := range notNeeds() {
		for _, s := range [][]impl.Release{nil, circle()} {
			for _, x := range append(stepsOf(s, needs), notSteps()...) {
				checkNoClashOf(t, s, needs, x)
			}
		}
	}
}

// P3 and P68: picks that hit what follows from two clashes hit one of these; it has no term more than both, and follows in whichever order.
func TestJoin(t *testing.T) {
	d := &dice{state: 68}
	list := append(rolledClashes(68, 700), edgeClashes()...)
	joined, wide, hits, first, second := 0, 0, 0, 0, 0
	for range 12000 {
		a, b := list[d.roll(len(list))], list[d.roll(len(list))]
		name := d.roll(8)
		must, mustOk := mustJoin(a, b, name)
		checkJoin(t, a, b, name, must, mustOk)
		c, ok := impl.ClashJoin(a, b, name)
		if !ok {
			if mustOk {
				wide++
			}
			continue
		}
		joined++
		for _, x := range c {
			_, inA := termAt(a, x.Name)
			_, inB := termAt(b, x.Name)
			if !inA && !inB {
				t.Fatalf("ClashJoin(%v, %v, %d) has %v", a, b, name, x)
			}
		}
		for range 8 {
			p := picksToHit(d, a, b)
			hitA, hitB := impl.ClashHits(a, p), impl.ClashHits(b, p)
			if hitA && hitB {
				checkHits(t, c, p, true)
			}
			if !impl.ClashHits(c, p) {
				continue
			}
			hits++
			if !hitA && !hitB {
				t.Fatalf("%v hit what follows from %v and %v by %d, and neither of these", p, a, b, name)
			}
			if !hitB {
				first++
			}
			if !hitA {
				second++
			}
		}
	}
	if joined < 2000 || wide < 10 || hits < 1000 || first < 100 || second < 100 {
		t.Errorf("clashes are joined %d times only, too wide %d times, hit %d times, and one alone %d and %d times", joined, wide, hits, first, second)
	}
}

// picksToHit are picks that have many terms of two clashes.
func picksToHit(d *dice, a []impl.Term, b []impl.Term) []impl.Pick {
	var c []impl.Pick
	for name := 0; name < 8; name++ {
		x, inA := termAt(a, name)
		y, inB := termAt(b, name)
		if (x.Off || !inA) && (y.Off || !inB) && d.roll(2) == 0 || d.roll(9) == 0 {
			continue
		}
		spans := slices.Concat(mustCut(x.R, y.R).Spans, mustCut(x.R, y.R).Spans, x.R.Spans, y.R.Spans, []impl.Span{span(100009, 100009)})
		chosen := spans[d.roll(len(spans))]
		v, _ := impl.VersionAt([]int{chosen.Low, chosen.High}[d.roll(2)])
		c = append(c, pick(name, v))
	}
	return c
}

// P3 and P68: what follows, written out by hand.
func TestKnownJoins(t *testing.T) {
	one, two := impl.RangeOne(major(1)), impl.RangeOne(major(2))
	notOne, notTwo := mustTurn(one), mustTurn(two)
	low, high := rangeOf(span(0, 500)), rangeOf(span(501, 9999999))
	for _, x := range []struct {
		a, b []impl.Term
		name int
		must []impl.Term
	}{
		// Of the name what is in either, with Off if one is.
		{[]impl.Term{term(3, low)}, []impl.Term{term(3, one)}, 3, []impl.Term{term(3, rangeOf(span(0, 500), span(100009, 100009)))}},
		{[]impl.Term{term(3, one)}, []impl.Term{termOff(3, one)}, 3, []impl.Term{termOff(3, one)}},
		{[]impl.Term{termOff(3, one)}, []impl.Term{termOff(3, two)}, 3, []impl.Term{termOff(3, rangeOf(span(100009, 100009), span(200009, 200009)))}},
		{[]impl.Term{term(3, impl.Range{})}, []impl.Term{term(3, impl.Range{})}, 3, []impl.Term{term(3, impl.Range{})}},
		// A term that covers everything is left out: all versions, and Off.
		{[]impl.Term{termOff(3, low)}, []impl.Term{term(3, high)}, 3, nil},
		{[]impl.Term{termOff(3, low)}, []impl.Term{termOff(3, high)}, 3, nil},
		{[]impl.Term{term(3, low)}, []impl.Term{term(3, high)}, 3, []impl.Term{term(3, impl.RangeAll())}},
		{[]impl.Term{term(3, impl.RangeAll())}, []impl.Term{termOff(3, impl.Range{})}, 3, nil},
		{[]impl.Term{termAll(3)}, []impl.Term{term(3, impl.Range{})}, 3, nil},
		{[]impl.Term{termAll(3)}, []impl.Term{termAll(3)}, 3, nil},
		{[]impl.Term{termOff(3, rangeOf(span(0, 499)))}, []impl.Term{term(3, high)}, 3, []impl.Term{termOff(3, rangeOf(span(0, 499), span(501, 9999999)))}},
		{[]impl.Term{termOff(3, rangeOf(span(1, 500)))}, []impl.Term{term(3, high)}, 3, []impl.Term{termOff(3, rangeOf(span(1, 9999999)))}},
		{[]impl.Term{termOff(3, rangeOf(span(0, 9999998)))}, []impl.Term{term(3, low)}, 3, []impl.Term{termOff(3, rangeOf(span(0, 9999998)))}},
		// Of another name the term that one has, even if that covers everything.
		{[]impl.Term{termOff(0, two), term(3, one)}, []impl.Term{term(3, one)}, 3, []impl.Term{termOff(0, two), term(3, one)}},
		{[]impl.Term{term(3, one)}, []impl.Term{term(3, one), termAll(7)}, 3, []impl.Term{term(3, one), termAll(7)}},
		{[]impl.Term{termOff(2, two), termOff(3, low)}, []impl.Term{term(3, high), termOff(4, one)}, 3, []impl.Term{termOff(2, two), termOff(4, one)}},
		// Or what both have, Off if both are, even if that is nothing or everything.
		{[]impl.Term{termOff(0, notOne), termOff(3, low)}, []impl.Term{termOff(0, notTwo), term(3, high)}, 3, []impl.Term{termOff(0, mustCut(notOne, notTwo))}},
		{[]impl.Term{termOff(0, notOne), termOff(3, low)}, []impl.Term{term(0, two), term(3, high)}, 3, []impl.Term{term(0, two)}},
		{[]impl.Term{term(0, one), termOff(3, low)}, []impl.Term{term(0, two), term(3, high)}, 3, []impl.Term{term(0, impl.Range{})}},
		{[]impl.Term{termOff(0, one), termOff(3, low)}, []impl.Term{termOff(0, two), term(3, high)}, 3, []impl.Term{termOff(0, impl.Range{})}},
		{[]impl.Term{termAll(0), termOff(3, low)}, []impl.Term{termAll(0), term(3, high)}, 3, []impl.Term{termAll(0)}},
		{[]impl.Term{termAll(0), termOff(3, low)}, []impl.Term{termAll(0), term(3, high)}, 0, []impl.Term{term(3, impl.Range{})}},
		{terms(0, 1, 2, 3, 4, 5, 6, 7), terms(0, 1, 2, 3, 4, 5, 6, 7), 4, terms(0, 1, 2, 3, 4, 5, 6, 7)},
		{terms(0, 1, 2, 3), terms(3, 4, 5, 6, 7), 3, terms(0, 1, 2, 3, 4, 5, 6, 7)},
	} {
		checkJoin(t, x.a, x.b, x.name, x.must, true)
	}
}

// P68: of a name of which one of both, or neither, has a term nothing follows.
func TestJoinWithoutTerm(t *testing.T) {
	all := terms(0, 1, 2, 3, 4, 5, 6, 7)
	for name := 0; name < 8; name++ {
		checkJoin(t, all, all, name, all, true)
		checkJoin(t, all, without(all, name), name, nil, false)
		checkJoin(t, without(all, name), without(all, name), name, nil, false)
		checkJoin(t, nil, all, name, nil, false)
		checkJoin(t, nil, nil, name, nil, false)
		checkJoin(t, terms(name), nil, name, nil, false)
	}
	for _, name := range []int{math.MinInt, -1, 8, 9, math.MaxInt} {
		checkJoin(t, all, all, name, nil, false)
		checkJoin(t, nil, nil, name, nil, false)
	}
}

// P68: what follows has at most 40 spans in each range, of the name and of others.
func TestJoinOfManySpans(t *testing.T) {
	even, odd := comb(0, 4, 1, 20), comb(2, 4, 1, 20)
	more := comb(2, 4, 1, 21)
	check := func(a []impl.Term, b []impl.Term, name int, mustOk bool) {
		t.Helper()
		must, _ := mustJoin(a, b, name)
		checkJoin(t, a, b, name, must, true)
		if _, ok := impl.ClashJoin(a, b, name); ok != mustOk {
			t.Errorf("ClashJoin(%v, %v, %d) is %v", a, b, name, ok)
		}
	}
	check([]impl.Term{term(3, even)}, []impl.Term{termOff(3, odd)}, 3, true)
	check([]impl.Term{term(3, even)}, []impl.Term{termOff(3, more)}, 3, false)
	check([]impl.Term{term(0, even), term(3, even)}, []impl.Term{term(3, more), termAll(4)}, 3, false)
	not, notMore := mustTurn(even), mustTurn(more)
	check([]impl.Term{term(0, not), termAll(3)}, []impl.Term{term(0, mustTurn(odd)), termAll(3)}, 3, true)
	check([]impl.Term{term(0, not), termAll(3)}, []impl.Term{term(0, notMore), termAll(3)}, 3, false)
	check([]impl.Term{termAll(3), term(7, not)}, []impl.Term{termAll(3), term(7, notMore)}, 3, false)
	// Too many spans at a name are too many, though all is left out at the other one.
	check([]impl.Term{termAll(3), term(7, not)}, []impl.Term{termAll(3), term(7, notMore)}, 7, true)
	check([]impl.Term{term(0, comb(0, 2, 1, 40)), termAll(3)}, []impl.Term{termAll(3), term(7, comb(1, 2, 1, 40))}, 3, true)
}

// P4, P67 and P69: steps have the clashes that they must, no choice in which nothing is wrong hits any of them, and the first steps have the first clashes.
func TestRolledProofs(t *testing.T) {
	d := &dice{state: 69}
	proofs, others, held := 0, 0, 0
	for _, q := range append(smallShelves(500), hardQuestions(120)...) {
		if len(q.s) > 12 {
			continue
		}
		steps := rolledProof(d, q, nil, 40)
		if must := mustRefute(q); must.is && d.roll(2) == 0 {
			steps = rolledProof(d, q, must.steps, 10)
		}
		checkRun(t, q.s, q.needs, steps)
		clashes, _ := impl.ProofRun(q.s, q.needs, steps)
		choices := mustChoices(withoutHeld(q))
		for i, clash := range clashes {
			for _, c := range choices {
				held++
				checkHits(t, clash, c, false)
			}
			first, ok := impl.ProofRun(q.s, q.needs, steps[:i])
			if !ok || !same(first, clashes[:i]) {
				t.Fatalf("ProofRun(%v, %v, %v) is %v", q.s, q.needs, steps[:i], first)
			}
			if impl.ProofOk(q.s, q.needs, steps[:i+1]) {
				proofs++
				if len(choices) > 0 {
					t.Fatalf("%v is proved not to be there", choices)
				}
				checkNotSolved(t, withoutHeld(q))
			} else {
				others++
			}
		}
	}
	if proofs < 30 || others < 1000 || held < 1000 {
		t.Errorf("there are %d proofs only, %d that are none, and %d choices", proofs, others, held)
	}
}

// P69: with a step anywhere that has no clash nothing is told of all of them.
func TestProofsWithoutClash(t *testing.T) {
	d := &dice{state: 70}
	for _, q := range hardQuestions(12) {
		steps := rolledProof(d, q, nil, 30)
		for _, x := range notSteps() {
			checkNoRun(t, q.s, q.needs, []impl.Step{x})
			at := d.roll(len(steps) + 1)
			// Behind it places are one too low, and right or wrong as it may be.
			checkNoRun(t, q.s, q.needs, with(steps[:at], at, impl.Step{Kind: 4, A: x.A, B: x.B, Name: x.Name}))
			checkRun(t, q.s, q.needs, with(steps, at, x))
			checkRun(t, q.s, q.needs, with(steps, len(steps), x))
		}
	}
}

// P69: a step of StepJoin follows from two steps before it alone, which may be the same.
func TestPlacesOfJoin(t *testing.T) {
	s := []impl.Release{release(0, major(1), needAny(1))}
	steps := []impl.Step{stepShelf(0), stepRelease(0, 0), stepShelf(1)}
	places := []int{math.MinInt, -1, 0, 1, 2, 3, 4, 300, math.MaxInt}
	for _, a := range places {
		for _, b := range places {
			for _, name := range edgeNames() {
				x := stepJoin(a, b, name)
				checkRun(t, s, nil, with(steps, 3, x))
				checkRun(t, s, nil, append([]impl.Step{x}, steps...))
				if a >= 3 || b >= 3 || a < 0 || b < 0 || name < 0 || name > 1 {
					checkNoRun(t, s, nil, with(steps, 3, x))
				}
			}
		}
	}
	for _, x := range []impl.Step{stepJoin(0, 0, 0), stepJoin(0, 1, 0), stepJoin(1, 0, 0), stepJoin(1, 1, 1), stepJoin(1, 2, 1), stepJoin(2, 2, 1)} {
		if _, ok := impl.ProofRun(s, nil, with(steps, 3, x)); !ok {
			t.Errorf("%v has no clash", x)
		}
	}
}

// P69: no steps have no clashes, and prove nothing; and there are at most StepMost.
func TestManySteps(t *testing.T) {
	for _, s := range append(edgeShelves(), rolledShelves(20)...) {
		checkRun(t, s, needsAny(0, 7), nil)
		checkRun(t, s, nil, []impl.Step{})
		if clashes, ok := impl.ProofRun(s, nil, nil); !ok || len(clashes) != 0 || impl.ProofOk(s, nil, nil) {
			t.Fatalf("ProofRun of no steps is %v, %v", clashes, ok)
		}
	}
	var steps []impl.Step
	for i := range 302 {
		steps = append(steps, []impl.Step{stepShelf(i % 8), stepNeed(i % 2), stepJoin(max(0, i-2), max(0, i-1), 1)}[i%3])
	}
	needs := []impl.Need{needAny(1), need(2, impl.RangeOne(major(1)))}
	steps[2] = stepJoin(1, 1, 2)
	for i := range steps {
		if c, ok := mustRun(nil, needs, steps[:i]); steps[i].Kind == 3 && !hasBoth(c, ok, steps[i]) {
			steps[i] = stepShelf(7)
		}
	}
	for _, many := range []int{1, 299, 300} {
		checkRun(t, nil, needs, steps[:many])
		if clashes, ok := impl.ProofRun(nil, needs, steps[:many]); !ok || len(clashes) != many {
			t.Fatalf("ProofRun of %d steps is %v, %v", many, clashes, ok)
		}
	}
	checkNoRun(t, nil, needs, steps[:301])
	checkNoRun(t, nil, needs, steps)
	// A proof that would be one but for its length.
	long := slices.Repeat([]impl.Step{stepShelf(1), stepNeed(0)}, 149)
	long = append(long, stepShelf(1), stepJoin(0, 1, 1))
	checkRun(t, nil, needs, long)
	if len(long) != 300 || !impl.ProofOk(nil, needs, long) {
		t.Errorf("%d steps prove nothing", len(long))
	}
	checkNoRun(t, nil, needs, with(long, 0, stepShelf(1)))
	checkNoRun(t, nil, needs, with(long, 300, stepJoin(0, 1, 1)))
}

func hasBoth(clashes [][]impl.Term, ok bool, x impl.Step) bool {
	if !ok {
		return false
	}
	_, has := mustJoin(clashes[x.A], clashes[x.B], x.Name)
	return has
}

// P4 and P69: the last step alone has to be without terms; what is behind it counts.
func TestLastStep(t *testing.T) {
	needs := needsAny(1)
	proof := []impl.Step{stepShelf(1), stepNeed(0), stepJoin(0, 1, 1)}
	for many, must := range []bool{false, false, false, true} {
		if impl.ProofOk(nil, needs, proof[:many]) != must {
			t.Errorf("%d steps: %v is wrong", many, must)
		}
	}
	if impl.ProofOk(nil, needs, with(proof, 3, stepShelf(5))) || !impl.ProofOk(nil, needs, append(with(proof, 3, stepShelf(5)), stepJoin(1, 0, 1))) {
		t.Error("a step behind the last one does not count")
	}
	// Nothing follows from a clash without terms.
	for name := 0; name < 8; name++ {
		checkNoRun(t, nil, needs, with(proof, 3, stepJoin(2, 0, name)))
		checkNoRun(t, nil, needs, with(proof, 3, stepJoin(2, 2, name)))
	}
	// A term that covers everything is a term, and a proof has to go on.
	none := []impl.Need{need(1, impl.Range{})}
	checkRun(t, circle(), none, []impl.Step{stepNeed(0)})
	if impl.ProofOk(circle(), none, []impl.Step{stepNeed(0)}) || !impl.ProofOk(circle(), none, []impl.Step{stepNeed(0), stepJoin(0, 0, 1)}) {
		t.Error("a need that nothing meets is not refuted by itself")
	}
	// A proof for these needs and this shelf is none for others.
	if impl.ProofOk(nil, needsAny(2), proof) || impl.ProofOk([]impl.Release{release(1, major(1))}, needs, proof) || impl.ProofOk(nil, nil, proof) {
		t.Error("a proof holds for whatever")
	}
	if !impl.ProofOk([]impl.Release{withdrawn(release(1, major(1)))}, needs, proof) {
		t.Error("what was withdrawn is there")
	}
}

// P4 and P69: of what is no shelf and no needs nothing is proved, not even by no steps.
func TestNoProofs(t *testing.T) {
	for _, s := range notShelves() {
		for _, steps := range [][]impl.Step{nil, {stepShelf(0)}, {stepShelf(1), stepNeed(0), stepJoin(0, 1, 1)}} {
			checkNoRun(t, s, needsAny(1), steps)
			checkNoRun(t, s, nil, steps)
		}
		checkNotRefuted(t, question{s: s})
		for name := range 8 {
			checkNotRefuted(t, question{s: s, needs: []impl.Need{need(name, impl.Range{})}})
		}
	}
	for _, needs := range notNeeds() {
		for _, s := range [][]impl.Release{nil, circle(), fullShelf(4)} {
			for _, steps := range [][]impl.Step{nil, {stepShelf(0)}, {stepShelf(3), stepNeed(0), stepJoin(0, 1, 3)}} {
				checkNoRun(t, s, needs, steps)
			}
			checkNotRefuted(t, question{s: s, needs: needs})
		}
	}
}

// P5 and P70: a proof is found just as the document has it found, it is one, and it needs its last step; where there is none, there is a choice, or it would be too long.
func TestRefute(t *testing.T) {
	few, many, long := 0, 0, 0
	for _, q := range proofQuestions() {
		must := checkRefute(t, q)
		_, found := impl.Solve(q.s, q.needs, nil)
		if found == must.would {
			t.Fatalf("of %v for %v there is a choice, and would be a proof, or neither", q.s, q.needs)
		}
		switch {
		case must.would && !must.is:
			long++
		case must.is && waysOf(q) <= 60:
			few++
		case must.is:
			many++
		}
		if must.would && !must.is && waysOf(q) <= 60 {
			t.Fatalf("of %v for %v there are %d ways, and no proof", q.s, q.needs, waysOf(q))
		}
	}
	if few < 200 || many < 200 || long < 1 {
		t.Errorf("proofs of few and of many ways are there %d and %d times only, and %d would be too long", few, many, long)
	}
}

// P5: it is told just if no choice is there, of all that are tried one by one.
func TestRefuteOrChoice(t *testing.T) {
	none, some := 0, 0
	for _, q := range append(smallShelves(900), questionsOf(5, 3, 100)...) {
		if waysOf(q) > 60 {
			continue
		}
		steps, ok := impl.Refute(q.s, q.needs)
		choices := mustChoices(withoutHeld(q))
		if ok == (len(choices) > 0) || ok != impl.ProofOk(q.s, q.needs, steps) {
			t.Fatalf("Refute(%v, %v) is %v, %v, and the choices are %v", q.s, q.needs, steps, ok, choices)
		}
		if ok {
			none++
		} else {
			some++
		}
	}
	if none < 100 || some < 100 {
		t.Errorf("there is no choice %d times only, or one %d times", none, some)
	}
}

// P5 and P70: proofs that were found by hand.
func TestKnownProofs(t *testing.T) {
	one, two := impl.RangeOne(major(1)), impl.RangeOne(major(2))
	// A name without any release: not to pick it hits the need, and no version is there.
	for name := range 8 {
		for _, r := range []impl.Range{impl.RangeAll(), one, {}} {
			q := question{needs: []impl.Need{need(name, r)}}
			checkRefuted(t, q, stepShelf(name), stepNeed(0), stepJoin(0, 1, name))
			q.s = []impl.Release{withdrawn(release(name, major(1))), withdrawn(release(name, major(2)))}
			checkRefuted(t, q, stepShelf(name), stepNeed(0), stepJoin(0, 1, name))
		}
	}
	// The version that is there is not in the range, so that the first way is enough.
	s := []impl.Release{release(0, major(1), need(1, two)), release(1, major(1))}
	checkRefuted(t, question{s: s, needs: []impl.Need{need(1, two)}}, stepShelf(1), stepNeed(0), stepJoin(0, 1, 1))
	// It is needed by the one release of 0: what comes of picking that has no term of 1.
	checkRefuted(t, question{s: s, needs: needsAny(0)},
		stepShelf(0), stepNeed(0), stepJoin(0, 1, 0), stepShelf(1), stepRelease(0, 0), stepJoin(3, 4, 1), stepJoin(2, 5, 0))
	// The newer one comes first, and the step of StepShelf of 1 is put once.
	s = []impl.Release{release(0, major(1), need(1, two)), release(0, major(2), need(1, impl.RangeOne(major(3)))), release(1, major(1))}
	checkRefuted(t, question{s: s, needs: needsAny(0)},
		stepShelf(0), stepNeed(0), stepJoin(0, 1, 0),
		stepShelf(1), stepRelease(1, 0), stepJoin(3, 4, 1), stepJoin(2, 5, 0),
		stepRelease(0, 0), stepJoin(3, 7, 1), stepJoin(6, 8, 0))
	// The later name has nothing to do with the earlier one, which is left as it is.
	checkRefuted(t, question{s: []impl.Release{release(0, major(1)), release(0, major(2))}, needs: needsAny(0, 5)},
		stepShelf(0), stepNeed(0), stepJoin(0, 1, 0), stepShelf(5), stepNeed(1), stepJoin(3, 4, 5))
	// Nobody needs the earlier name but by a version of the later one: already to do without it comes to all.
	s = []impl.Release{release(0, major(1)), release(5, major(1), need(0, one)), release(5, major(2), need(7, one))}
	checkRefuted(t, question{s: s, needs: []impl.Need{need(5, impl.RangeOne(major(3))), need(7, impl.RangeAll())}}, stepShelf(5), stepNeed(0), stepJoin(0, 1, 5))
	// What was withdrawn is no way to decide, but its need and that of others are asked in order.
	s = []impl.Release{withdrawn(release(3, major(1))), release(4, major(1), need(3, one), need(6, one))}
	checkRefuted(t, question{s: s, needs: needsAny(4)},
		stepShelf(3), stepShelf(4), stepNeed(0), stepJoin(1, 2, 4), stepRelease(1, 0), stepJoin(3, 4, 4), stepJoin(0, 5, 3))
	// A need that nothing meets covers everything.
	checkRefuted(t, question{s: []impl.Release{release(2, major(1), need(0, impl.Range{}))}, needs: needsAny(2)},
		stepShelf(0), stepShelf(2), stepNeed(0), stepJoin(1, 2, 2), stepRelease(0, 0), stepJoin(3, 4, 2), stepJoin(0, 5, 0))
}

// P5: round the circle each one needs a newer one than the one before, so that it does not close; as soon as it closes there is a choice.
func TestCircleRefuted(t *testing.T) {
	s := []impl.Release{
		release(1, major(1), need(2, impl.RangeOne(major(1)))), release(1, major(2), need(2, impl.RangeOne(major(2)))),
		release(2, major(1), need(1, impl.RangeOne(major(2)))), release(2, major(2), need(1, impl.RangeOne(major(3)))),
	}
	checkRefuted(t, question{s: s, needs: needsAny(1)},
		stepShelf(1), stepNeed(0), stepJoin(0, 1, 1),
		stepShelf(2), stepRelease(1, 0), stepJoin(3, 4, 2), stepRelease(3, 0), stepJoin(5, 6, 2), stepJoin(2, 7, 1),
		stepRelease(0, 0), stepJoin(3, 9, 2), stepJoin(10, 9, 2), stepRelease(2, 0), stepJoin(11, 12, 2), stepJoin(8, 13, 1))
	for _, needs := range [][]impl.Need{nil, needsAny(1), needsAny(2), needsAny(1, 2)} {
		checkRefute(t, question{s: s, needs: needs})
		closed := question{s: with(s, 2, release(1, major(3), needAny(2))), needs: needs}
		checkRefute(t, closed)
		checkNotRefuted(t, closed)
	}
	for _, name := range []int{0, 3, 7} {
		checkNotRefuted(t, question{s: circle(), needs: needsAny(name)})
		for _, gone := range []int{0, 3, 7} {
			open, _ := impl.ShelfGone(circle(), gone, major(1))
			if must := checkRefute(t, question{s: open, needs: needsAny(name)}); !must.is {
				t.Errorf("without %d %d is not refuted", gone, name)
			}
		}
	}
}

// P5: who needs nothing has a choice, and so has who needs what is there.
func TestNotRefuted(t *testing.T) {
	for _, s := range okShelves() {
		checkNotRefuted(t, question{s: s})
		checkNotRefuted(t, question{s: s, needs: []impl.Need{}})
	}
	for _, q := range append(plantedChoices(400), withdrawnShelves()...) {
		c, ok := impl.Solve(q.s, q.needs, nil)
		must := checkRefute(t, withoutHeld(q))
		if ok == must.is {
			t.Fatalf("of %v for %v there is %v, and a proof", q.s, q.needs, c)
		}
	}
}

// withdrawnShelves are questions with shelves of which each release, one by one, was withdrawn.
func withdrawnShelves() []question {
	var list []question
	for _, q := range smallShelves(60) {
		for _, x := range q.s {
			gone, _ := impl.ShelfGone(q.s, x.Name, x.V)
			list = append(list, question{s: gone, needs: q.needs})
		}
	}
	return list
}

// longShelf has three names, each needing the next one, and the last one needing what is not there, so that each version has steps of its own; the versions that are told leave out the last way of 1, one step each.
func longShelf(less int) []impl.Release {
	var s []impl.Release
	for v := 1; v <= 14; v++ {
		r := impl.RangeAll()
		if v <= less {
			r = rangeOf(span(100010, 9999999))
		}
		s = append(s, release(0, major(v), need(1, r)))
	}
	for v := 1; v <= 15; v++ {
		s = append(s, release(1, major(v), needAny(2)))
	}
	return append(s, release(2, major(1), need(0, impl.RangeOne(major(99)))))
}

// P5: a proof of StepMost steps is told, and one that would have one more is not.
func TestLongProofs(t *testing.T) {
	for less := range 7 {
		q := question{s: longShelf(less), needs: needsAny(0)}
		must := checkRefute(t, q)
		if len(must.steps) != 303-less || must.is != (less >= 3) {
			t.Errorf("the proof has %d steps, and is told: %v", len(must.steps), must.is)
		}
		checkNotSolved(t, q)
		checkRun(t, q.s, q.needs, must.steps)
	}
}

// P5: where a clash that is hit has too many spans, or what follows, there is no proof; where it is not hit, it does not matter.
func TestProofsOfManySpans(t *testing.T) {
	wide := comb(1, 2, 1, 40)
	there, _ := impl.VersionAt(1)
	for _, x := range []struct {
		q  question
		is bool
	}{
		// The clash of a need of 40 spans has 41, or 40 if one begins with the first version of all.
		{question{needs: []impl.Need{need(3, wide)}}, false},
		{question{needs: []impl.Need{need(3, comb(0, 2, 1, 40))}}, true},
		{question{needs: []impl.Need{need(3, combToTop(2, 1, 40))}}, true},
		{question{needs: []impl.Need{need(3, comb(1, 2, 1, 39))}}, true},
		{question{needs: []impl.Need{need(3, wide), needAny(4)}}, false},
		{question{s: []impl.Release{release(3, there)}, needs: []impl.Need{need(3, wide), needAny(4)}}, false},
		// The need before it is refuted first.
		{question{needs: []impl.Need{needAny(2), need(3, wide)}}, true},
		// The same of a release: its name is never decided, or the need is met, or it is not.
		{question{s: []impl.Release{release(0, major(1), need(3, wide))}, needs: []impl.Need{need(0, impl.RangeOne(major(2)))}}, true},
		{question{s: []impl.Release{release(0, major(1), need(3, wide))}, needs: needsAny(0)}, false},
		{question{s: []impl.Release{release(4, major(1), need(3, wide))}, needs: needsAny(3, 4)}, true},
		{question{s: []impl.Release{release(3, there), release(4, major(1), need(3, wide), needAny(5))}, needs: needsAny(3, 4)}, true},
		{question{s: []impl.Release{release(3, major(1)), release(4, major(1), need(3, wide), needAny(5))}, needs: needsAny(3, 4)}, false},
		// What both have of a name has 40 spans, or 41.
		{question{s: twoNeeds(comb(0, 4, 1, 20), comb(2, 4, 1, 20)), needs: needsAny(5)}, true},
		{question{s: twoNeeds(comb(0, 4, 1, 20), comb(2, 4, 1, 21)), needs: needsAny(5)}, false},
		{question{s: twoNeeds(comb(0, 4, 1, 40), comb(2, 4, 1, 40)), needs: needsAny(5)}, false},
		{question{s: twoNeeds(comb(0, 4, 1, 40), comb(0, 4, 1, 40)), needs: needsAny(5)}, true},
	} {
		if must := checkRefute(t, x.q); must.is != x.is || !must.would {
			t.Errorf("%v for %v is refuted: %v", x.q.s, x.q.needs, must.is)
		}
		checkNotSolved(t, x.q)
	}
}

// twoNeeds is a shelf on which each of two versions of 5 needs 0, which is not there, in another range.
func twoNeeds(a impl.Range, b impl.Range) []impl.Release {
	return []impl.Release{release(5, major(1), need(0, a)), release(5, major(2), need(0, b))}
}

// P5: a name that is picked needs what nobody else asks for, and it is not needed itself: it cannot be in the way of a choice.
func TestNamesThatDoNotComeUp(t *testing.T) {
	s := []impl.Release{
		release(0, major(1), need(1, impl.RangeOne(major(1)))), release(0, major(2), needAny(2)),
		release(1, major(1), needAny(6)), release(1, major(2), need(5, impl.RangeAll())), release(2, major(1)),
	}
	checkNotRefuted(t, question{s: s, needs: needsAny(0)})
	checkSolved(t, question{s: s, needs: needsAny(0)}, []impl.Pick{pick(0, major(2)), pick(2, major(1))})
	gone, _ := impl.ShelfGone(s, 2, major(1))
	if must := checkRefute(t, question{s: gone, needs: needsAny(0)}); !must.is {
		t.Error("it is not refuted")
	}
}

// P5: all names come up, each in some versions, with the needs of all in circles.
func TestAllNamesRefuted(t *testing.T) {
	d := &dice{state: 6}
	told := 0
	for range 60 {
		s := hardShelf(d, 8, 1+d.roll(4))
		for first := range 4 {
			if must := checkRefute(t, question{s: s, needs: needsAny(first, first+1, first+3, first+4)}); must.is {
				told++
			}
		}
	}
	if told < 100 {
		t.Errorf("it is refuted %d times only", told)
	}
}

// P6: of whatever releases, needs and picks, right or not, all roads come to the same.
func TestAllRoads(t *testing.T) {
	d := &dice{state: 66}
	shelves := append(okShelves(), rolledShelves(200)...)
	for _, q := range append(smallShelves(100), hardQuestions(60)...) {
		shelves = append(shelves, q.s)
	}
	okMany := len(shelves)
	shelves = append(shelves, notShelves()...)
	needs := [][]impl.Need{nil, needsAny(0), needsAny(0, 1), needsAny(1, 2, 3), needsAny(3, 7), {need(0, impl.RangeOne(major(2)))}}
	for range 30 {
		needs = append(needs, rolledNeeds(d, 5, -1), kindNeeds(d, 4, -1))
	}
	okNeeds := len(needs)
	needs = append(needs, notNeeds()...)
	refusals, choices, proofs := 0, 0, 0
	for range 9000 {
		i, j := d.roll(len(shelves)), d.roll(len(needs))
		if d.roll(2) == 0 {
			i, j = d.roll(okMany), d.roll(okNeeds)
		}
		q := question{s: shelves[i], needs: needs[j]}
		if i >= okMany || j >= okNeeds {
			refusals++
			checkNotSolved(t, q)
			checkNoneTold(t, q.s, q.needs, 50)
			checkNotRelocked(t, relocked{question: q})
			checkNotRefuted(t, q)
			checkNoRun(t, q.s, q.needs, nil)
			continue
		}
		c, ok := impl.Solve(q.s, q.needs, nil)
		checkAllRoads(t, q, c, ok)
		if ok {
			choices++
		} else {
			proofs++
		}
		for range 4 {
			p := rolledPicks(d, q.s)
			if impl.ChoiceFault(q.s, q.needs, nil, p) == impl.FaultFine && (!ok || impl.ChoiceBetter(p, c)) {
				t.Fatalf("nothing is wrong with %v of %v for %v, and %v is found", p, q.s, q.needs, c)
			}
		}
	}
	if refusals < 2000 || choices < 800 || proofs < 800 {
		t.Errorf("it is refused %d times only, there is a choice %d times, and none %d times", refusals, choices, proofs)
	}
}

// checkAllRoads holds that the first one of all choices is the best one, and the one that locks nothing, and that there is none just if a proof says so, or would be too long.
func checkAllRoads(t *testing.T, q question, c []impl.Pick, ok bool) {
	t.Helper()
	first := impl.SolveAll(q.s, q.needs, 1)
	if ok != (len(first) == 1) || ok && !slices.Equal(first[0], c) {
		t.Fatalf("SolveAll(%v, %v, 1) is %v, and Solve %v, %v", q.s, q.needs, first, c, ok)
	}
	if ok {
		checkRelocked(t, relocked{question: q}, c)
	} else {
		checkNotRelocked(t, relocked{question: q})
	}
	must := checkRefute(t, q)
	if ok == must.would {
		t.Fatalf("Solve(%v, %v, nil) is %v, %v, and the proof would be %v", q.s, q.needs, c, ok, must.steps)
	}
}

// P3 to P5 and P65 to P70: what is handed in is left as it was, and what is handed out shares no memory with it, nor a clash with another one.
func TestProofsShareNothing(t *testing.T) {
	d := &dice{state: 7}
	list := append(smallShelves(150), hardQuestions(80)...)
	for _, s := range notShelves()[:20] {
		list = append(list, question{s: s, needs: needsAny(0, 1)})
	}
	for _, needs := range notNeeds()[:20] {
		list = append(list, question{s: circle(), needs: needs})
	}
	for _, old := range list {
		s, needs := handed(old.s), handed(old.needs)
		proof, _ := impl.Refute(s, needs)
		if len(proof) == 0 && impl.ShelfOk(s) && impl.NeedsOk(needs) {
			proof = rolledProof(d, old, nil, 30)
		}
		steps := handed(proof)
		was := wholeText(s, needs, steps)
		again, _ := impl.Refute(s, needs)
		other, _ := impl.Refute(s, needs)
		clashes, _ := impl.ProofRun(s, needs, steps)
		more, _ := impl.ProofRun(s, needs, steps)
		impl.ProofOk(s, needs, steps)
		answers := []any{again, other, clashes, more}
		if !same(again, other) || !same(clashes, more) {
			t.Fatalf("asked again of %v and %v it is not the same", s, needs)
		}
		for _, x := range stepsOf(s, needs) {
			c, _ := impl.ClashOf(s, needs, x)
			answers = append(answers, c)
		}
		checkMemory(t, "a proof", was, []any{s, needs, steps}, answers)
	}
}

// P3, P65, P66 and P68: the same of clashes.
func TestClashesShareNothing(t *testing.T) {
	list := append(append(edgeClashes(), rolledClashes(8, 60)...), notClashes()[:30]...)
	for i, old := range list {
		a, b, p := handed(old), handed(list[(i*7+3)%len(list)]), handed(picks(0, 1, 3, 7))
		was := wholeText(a, b, p)
		var answers []any
		for name := range 8 {
			c, _ := impl.ClashJoin(a, b, name)
			d, _ := impl.ClashJoin(b, a, name)
			e, _ := impl.ClashJoin(a, a, name)
			answers = append(answers, c, d, e)
		}
		impl.ClashOk(a)
		impl.ClashHits(a, p)
		checkMemory(t, "a clash", was, []any{a, b, p}, answers)
	}
}
