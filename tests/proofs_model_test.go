package tests

import (
	"slices"

	"loop.example/packageworld/impl"
)

// What is here tells without impl what chapter 6 has to come to. Ranges may have as many spans as it takes: which are too many is asked at the end.

// cutsOf are cells of which none is in part in any of some ranges.
func cutsOf(list ...impl.Range) cells {
	starts := []int{0}
	for _, r := range list {
		for _, x := range r.Spans {
			starts = append(starts, x.Low)
			if x.High < 9999999 {
				starts = append(starts, x.High+1)
			}
		}
	}
	slices.Sort(starts)
	return slices.Compact(starts)
}

func (c cells) setOf(r impl.Range) []bool {
	in := make([]bool, len(c))
	for i, start := range c {
		in[i] = mustHave(r, start)
	}
	return in
}

func mustTurn(r impl.Range) impl.Range {
	c := cutsOf(r)
	return c.rangeOf(notCells(c.setOf(r)))
}

func mustCut(a impl.Range, b impl.Range) impl.Range {
	c := cutsOf(a, b)
	return c.rangeOf(andCells(c.setOf(a), c.setOf(b)))
}

func mustLay(a impl.Range, b impl.Range) impl.Range {
	c := cutsOf(a, b)
	return c.rangeOf(orCells(c.setOf(a), c.setOf(b)))
}

// tooWide reports whether a clash has a range with more than 40 spans.
func tooWide(c []impl.Term) bool {
	return slices.ContainsFunc(c, func(x impl.Term) bool { return len(x.R.Spans) > 40 })
}

func termAt(c []impl.Term, name int) (impl.Term, bool) {
	i := slices.IndexFunc(c, func(x impl.Term) bool { return x.Name == name })
	if i < 0 {
		return impl.Term{}, false
	}
	return c[i], true
}

// mustHit tells whether picks have all terms of a clash.
func mustHit(c []impl.Term, p []impl.Pick) bool {
	for _, x := range c {
		i := slices.IndexFunc(p, func(y impl.Pick) bool { return y.Name == x.Name })
		if i < 0 && !x.Off || i >= 0 && !mustHave(x.R, impl.VersionRank(p[i].V)) {
			return false
		}
	}
	return true
}

// mustClash tells the clash of a step that is none of StepJoin, and whether there is one.
func mustClash(s []impl.Release, needs []impl.Need, x impl.Step) ([]impl.Term, bool) {
	among := func(i int, many int) bool { return 0 <= i && i < many }
	unmet := func(n impl.Need) impl.Term { return termOff(n.Name, mustTurn(n.R)) }
	switch {
	case x.Kind == 0 && among(x.A, len(needs)) && x.B == 0 && x.Name == 0:
		return []impl.Term{unmet(needs[x.A])}, true
	case x.Kind == 1 && among(x.A, len(s)) && among(x.B, len(s[x.A].Needs)) && x.Name == 0:
		rank := impl.VersionRank(s[x.A].V)
		c := []impl.Term{term(s[x.A].Name, rangeOf(span(rank, rank))), unmet(s[x.A].Needs[x.B])}
		slices.SortFunc(c, func(a impl.Term, b impl.Term) int { return a.Name - b.Name })
		return c, true
	case x.Kind == 2 && x.A == 0 && x.B == 0 && among(x.Name, 8):
		var there impl.Range
		for _, y := range s {
			if rank := impl.VersionRank(y.V); y.Name == x.Name && !y.Gone {
				there = mustLay(there, rangeOf(span(rank, rank)))
			}
		}
		return []impl.Term{term(x.Name, mustTurn(there))}, true
	}
	return nil, false
}

// mustJoin tells what follows from two clashes, and whether anything does.
func mustJoin(a []impl.Term, b []impl.Term, by int) ([]impl.Term, bool) {
	if _, ok := termAt(a, by); !ok {
		return nil, false
	}
	if _, ok := termAt(b, by); !ok {
		return nil, false
	}
	var c []impl.Term
	for name := 0; name < 8; name++ {
		x, inA := termAt(a, name)
		y, inB := termAt(b, name)
		both := impl.Term{Name: name, R: mustCut(x.R, y.R), Off: x.Off && y.Off}
		either := impl.Term{Name: name, R: mustLay(x.R, y.R), Off: x.Off || y.Off}
		switch {
		case name == by && either.Off && sameRange(either.R, rangeOf(span(0, 9999999))):
		case name == by || inA != inB:
			// A term that is not there has nothing, so that laid to another one it is that.
			c = append(c, either)
		case inA:
			c = append(c, both)
		}
	}
	return c, true
}

// mustNext tells the clash of a step that stands behind those that have some clashes, and whether there is one.
func mustNext(s []impl.Release, needs []impl.Need, clashes [][]impl.Term, x impl.Step) ([]impl.Term, bool) {
	if x.Kind != 3 {
		return mustClash(s, needs, x)
	}
	if x.A < 0 || x.B < 0 || x.A >= len(clashes) || x.B >= len(clashes) {
		return nil, false
	}
	return mustJoin(clashes[x.A], clashes[x.B], x.Name)
}

// mustRun tells the clashes of steps, and whether each has one without too many spans.
func mustRun(s []impl.Release, needs []impl.Need, steps []impl.Step) ([][]impl.Term, bool) {
	var clashes [][]impl.Term
	for _, x := range steps {
		c, ok := mustNext(s, needs, clashes, x)
		if !ok || tooWide(c) {
			return nil, false
		}
		clashes = append(clashes, c)
	}
	return clashes, len(steps) <= 300
}

// finder finds a proof as the document has it found, with as many steps and spans as it takes, though no more than 2000 steps.
type finder struct {
	s       []impl.Release
	needs   []impl.Need
	names   []int
	steps   []impl.Step
	clashes [][]impl.Term
	found   bool
}

func (f *finder) put(x impl.Step) int {
	if at := slices.Index(f.steps, x); at >= 0 {
		return at
	}
	c, ok := mustNext(f.s, f.needs, f.clashes, x)
	if !ok {
		panic("there is no such step")
	}
	f.steps = append(f.steps, x)
	f.clashes = append(f.clashes, c)
	return len(f.steps) - 1
}

// hit is the first step that picks hit, of names that are decided.
func (f *finder) hit(c []impl.Pick, decided []int) (impl.Step, bool) {
	var all []impl.Step
	for i := range f.needs {
		all = append(all, impl.Step{Kind: 0, A: i})
	}
	for i, x := range f.s {
		for j := range x.Needs {
			if slices.Contains(c, pick(x.Name, x.V)) {
				all = append(all, impl.Step{Kind: 1, A: i, B: j})
			}
		}
	}
	for _, x := range all {
		clash, _ := mustClash(f.s, f.needs, x)
		open := slices.ContainsFunc(clash, func(y impl.Term) bool { return !slices.Contains(decided, y.Name) })
		if !open && mustHit(clash, c) {
			return x, true
		}
	}
	return impl.Step{}, false
}

// comes is the place of the step that comes of picks; there is none once found is false.
func (f *finder) comes(c []impl.Pick, decided []int) int {
	if x, ok := f.hit(c, decided); ok {
		return f.put(x)
	}
	if len(decided) == len(f.names) || len(f.steps) > 2000 {
		f.found = false
		return -1
	}
	name := f.names[len(decided)]
	more := with(decided, len(decided), name)
	ways := [][]impl.Pick{c}
	for _, x := range slices.Backward(f.s) {
		if x.Name == name && !x.Gone {
			ways = append(ways, with(c, len(c), pick(name, x.V)))
		}
	}
	is := f.put(impl.Step{Kind: 2, Name: name})
	for _, way := range ways {
		at := f.comes(way, more)
		if !f.found {
			return -1
		}
		if _, has := termAt(f.clashes[at], name); !has {
			return at
		}
		is = f.put(impl.Step{Kind: 3, A: is, B: at, Name: name})
		if _, has := termAt(f.clashes[is], name); !has {
			return is
		}
	}
	return is
}

// refuted is what the document has come of looking for a proof: the steps that it would have, whether there would be one but for too many steps or spans, and whether there is one.
type refuted struct {
	steps []impl.Step
	would bool
	is    bool
}

func mustRefute(q question) refuted {
	f := finder{s: q.s, needs: q.needs, names: mustNames(q.s, q.needs), found: true}
	f.comes(nil, nil)
	wide := slices.ContainsFunc(f.clashes, tooWide)
	return refuted{f.steps, f.found, f.found && !wide && len(f.steps) <= 300}
}

// waysOf tells in how many ways names can be picked or not.
func waysOf(q question) int {
	ways := 1
	for _, name := range mustNames(q.s, q.needs) {
		many := 1
		for _, x := range q.s {
			if x.Name == name && !x.Gone {
				many++
			}
		}
		ways *= many
	}
	return ways
}
