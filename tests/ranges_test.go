package tests

import (
	"math"
	"slices"
	"strings"
	"testing"

	"loop.example/packageworld/impl"
)

func span(low int, high int) impl.Span {
	return impl.Span{Low: low, High: high}
}

func rangeOf(spans ...impl.Span) impl.Range {
	return impl.Range{Spans: spans}
}

func sameRange(a impl.Range, b impl.Range) bool {
	return slices.Equal(a.Spans, b.Spans)
}

func copyOfRange(r impl.Range) impl.Range {
	return impl.Range{Spans: slices.Clone(r.Spans)}
}

// comb has so many spans, as long as are told, each the same way behind the one before it.
func comb(first int, way int, long int, many int) impl.Range {
	var r impl.Range
	for i := 0; i < many; i++ {
		low := first + way*i
		r.Spans = append(r.Spans, span(low, low+long-1))
	}
	return r
}

// combToTop is a comb whose last span ends at the greatest rank.
func combToTop(way int, long int, many int) impl.Range {
	return comb(impl.RankTop-way*(many-1)-(long-1), way, long, many)
}

func notRanges() []impl.Range {
	return []impl.Range{
		// Spans that touch.
		rangeOf(span(0, 4), span(5, 9)),
		rangeOf(span(7, 7), span(8, 8)),
		rangeOf(span(0, 100), span(200, 300), span(301, 400)),
		rangeOf(span(0, 9999998), span(9999999, 9999999)),
		comb(0, 1, 1, 2), comb(0, 5, 5, 40),
		// Spans that overlap.
		rangeOf(span(0, 5), span(5, 9)),
		rangeOf(span(0, 5), span(3, 9)),
		rangeOf(span(0, 9), span(3, 5)),
		rangeOf(span(3, 5), span(0, 9)),
		rangeOf(span(0, 9999999), span(9999999, 9999999)),
		comb(0, 5, 6, 40),
		// Spans that stand twice, or in the wrong order.
		rangeOf(span(0, 5), span(0, 5)),
		rangeOf(span(7, 7), span(7, 7)),
		rangeOf(span(0, 0), span(0, 0)),
		rangeOf(span(0, 9999999), span(0, 9999999)),
		rangeOf(span(10, 20), span(0, 5)),
		rangeOf(span(9999999, 9999999), span(0, 0)),
		rangeOf(span(0, 5), span(20, 25), span(10, 15)),
		comb(9999999, -3, 1, 3),
		// Low above High.
		rangeOf(span(1, 0)),
		rangeOf(span(9999999, 0)),
		rangeOf(span(9999999, 9999998)),
		rangeOf(span(0, 5), span(9, 8)),
		rangeOf(span(0, 5), span(9, 3)),
		rangeOf(span(9, 8), span(20, 25)),
		rangeOf(span(0, -1)),
		// Ranks that there are not.
		rangeOf(span(-1, 5)),
		rangeOf(span(-1, -1)),
		rangeOf(span(-2, -1), span(5, 9)),
		rangeOf(span(-10000000, 10000000)),
		rangeOf(span(-1, 9999999)),
		rangeOf(span(0, 10000000)),
		rangeOf(span(5, 10000000)),
		rangeOf(span(10000000, 10000000)),
		rangeOf(span(0, 5), span(7, 10000000)),
		rangeOf(span(0, 5), span(10000000, 10000000)),
		rangeOf(span(0, 5), span(-1, 9)),
		rangeOf(span(math.MinInt, 5)), rangeOf(span(math.MinInt, math.MaxInt)), rangeOf(span(math.MinInt, math.MinInt)),
		rangeOf(span(0, math.MaxInt)), rangeOf(span(math.MaxInt, math.MaxInt)),
		rangeOf(span(0, math.MaxInt), span(5, 9)), rangeOf(span(0, math.MaxInt-1), span(math.MaxInt, math.MaxInt)),
		rangeOf(span(0, math.MaxInt), span(math.MinInt, 9)),
		// More than 40 spans.
		comb(0, 2, 1, 41), comb(1, 7, 3, 41), combToTop(2, 1, 41), comb(0, 2, 1, 42), comb(0, 2, 1, 1000),
	}
}

// knownRange is a range with its text, written out by hand.
type knownRange struct {
	r    impl.Range
	text string
}

func knownRanges() []knownRange {
	return []knownRange{
		{impl.Range{}, "-"},
		{rangeOf(span(0, 9999999)), "0.0.0-1..99.99.99"},
		{rangeOf(span(0, 0)), "0.0.0-1"},
		{rangeOf(span(9999999, 9999999)), "99.99.99"},
		{rangeOf(span(0, 1)), "0.0.0-1..0.0.0-2"},
		{rangeOf(span(0, 9)), "0.0.0-1..0.0.0"},
		{rangeOf(span(9999998, 9999999)), "99.99.99-9..99.99.99"},
		{rangeOf(span(102009, 199999)), "1.2.0..1.99.99"},
		{rangeOf(span(102033, 102033)), "1.2.3-4"},
		{rangeOf(span(102033, 102039)), "1.2.3-4..1.2.3"},
		{rangeOf(span(0, 0), span(2, 2)), "0.0.0-1 | 0.0.0-3"},
		{rangeOf(span(0, 0), span(9999999, 9999999)), "0.0.0-1 | 99.99.99"},
		{rangeOf(span(0, 9999997), span(9999999, 9999999)), "0.0.0-1..99.99.99-8 | 99.99.99"},
		{rangeOf(span(0, 100008), span(100010, 9999999)), "0.0.0-1..1.0.0-9 | 1.0.1-1..99.99.99"},
		{rangeOf(span(100009, 100009), span(200009, 299999), span(400000, 499999)), "1.0.0 | 2.0.0..2.99.99 | 4.0.0-1..4.99.99"},
	}
}

// edgeRanges are ranges at the bounds of what a range can be.
func edgeRanges() []impl.Range {
	list := []impl.Range{
		comb(0, 2, 1, 40), comb(1, 2, 1, 40), combToTop(2, 1, 40), comb(0, 7, 6, 40), comb(1, 7, 6, 40), combToTop(7, 6, 40),
		comb(0, 249999, 249998, 40), comb(0, 2, 1, 39), comb(1, 2, 1, 39), comb(500000, 100000, 99999, 40),
	}
	for _, x := range knownRanges() {
		list = append(list, x.r)
	}
	return list
}

// mustHave tells without impl whether a rank is in a range.
func mustHave(r impl.Range, rank int) bool {
	return slices.ContainsFunc(r.Spans, func(x impl.Span) bool { return x.Low <= rank && rank <= x.High })
}

// mustRangeText tells without RangeText how the document has a range written.
func mustRangeText(r impl.Range) string {
	if len(r.Spans) == 0 {
		return "-"
	}
	var parts []string
	for _, x := range r.Spans {
		low, _ := impl.VersionAt(x.Low)
		high, _ := impl.VersionAt(x.High)
		if x.Low == x.High {
			parts = append(parts, mustText(low))
		} else {
			parts = append(parts, mustText(low)+".."+mustText(high))
		}
	}
	return strings.Join(parts, " | ")
}

// cells cut all ranks into pieces, each from a start to the next one. Sets of cells are what ranges are held against: of these truth is told cell by cell.
type cells []int

// fewCells have both ends of all ranks, cells of one rank and of many.
func fewCells() cells {
	return cells{0, 1, 3, 4, 100009, 102040, 9999998, 9999999}
}

// manyCells are as many cells of one rank as make more than 40 spans, and one of all other ranks.
func manyCells() cells {
	var list cells
	for rank := 0; rank <= 100; rank++ {
		list = append(list, rank)
	}
	return list
}

func (c cells) end(i int) int {
	if i+1 < len(c) {
		return c[i+1] - 1
	}
	return 9999999
}

// rangeOf is the one way to tell a set of cells; it may have more spans than a range can.
func (c cells) rangeOf(in []bool) impl.Range {
	var r impl.Range
	for i, start := range c {
		if !in[i] {
			continue
		}
		if i > 0 && in[i-1] {
			r.Spans[len(r.Spans)-1].High = c.end(i)
		} else {
			r.Spans = append(r.Spans, span(start, c.end(i)))
		}
	}
	return r
}

// sets are all sets of cells.
func (c cells) sets() [][]bool {
	var list [][]bool
	for mask := 0; mask < 1<<len(c); mask++ {
		in := make([]bool, len(c))
		for i := range in {
			in[i] = mask>>i&1 == 1
		}
		list = append(list, in)
	}
	return list
}

// patterns are sets of cells that go on as they begin, and each of them with the cells turned behind some place.
func (c cells) patterns() [][]bool {
	var list [][]bool
	for way := 1; way <= 7; way++ {
		for long := 0; long <= way; long++ {
			for _, turn := range []int{0, 40, len(c)} {
				in := make([]bool, len(c))
				for i := range in {
					in[i] = (i%way < long) == (i < turn)
				}
				list = append(list, in)
			}
		}
	}
	return list
}

func notCells(a []bool) []bool {
	in := make([]bool, len(a))
	for i := range in {
		in[i] = !a[i]
	}
	return in
}

func andCells(a []bool, b []bool) []bool {
	in := make([]bool, len(a))
	for i := range in {
		in[i] = a[i] && b[i]
	}
	return in
}

func orCells(a []bool, b []bool) []bool {
	in := make([]bool, len(a))
	for i := range in {
		in[i] = a[i] || b[i]
	}
	return in
}

// checkTold holds what came of ranges against what must: the same spans, if they are few enough, and otherwise nothing.
func checkTold(t *testing.T, what string, r impl.Range, ok bool, must impl.Range) {
	t.Helper()
	if len(must.Spans) > 40 {
		checkNoRangeTold(t, what, r, ok)
		return
	}
	if !ok || !sameRange(r, must) {
		t.Fatalf("%s is %v, %v, not %v", what, r, ok, must)
	}
	if !impl.RangeOk(r) {
		t.Fatalf("%s is %v, which is none", what, r)
	}
}

func checkNoRangeTold(t *testing.T, what string, r impl.Range, ok bool) {
	t.Helper()
	if ok || len(r.Spans) != 0 {
		t.Fatalf("%s is %v, %v", what, r, ok)
	}
}

func checkNot(t *testing.T, a impl.Range, must impl.Range) {
	t.Helper()
	r, ok := impl.RangeNot(a)
	checkTold(t, "RangeNot", r, ok, must)
}

func checkAnd(t *testing.T, a impl.Range, b impl.Range, must impl.Range) {
	t.Helper()
	r, ok := impl.RangeAnd(a, b)
	checkTold(t, "RangeAnd", r, ok, must)
}

func checkOr(t *testing.T, a impl.Range, b impl.Range, must impl.Range) {
	t.Helper()
	r, ok := impl.RangeOr(a, b)
	checkTold(t, "RangeOr", r, ok, must)
}

func checkNoRange(t *testing.T, none impl.Range) {
	t.Helper()
	if impl.RangeOk(none) {
		t.Fatalf("RangeOk(%v) is true", none)
	}
	if text := impl.RangeText(none); text != "" {
		t.Fatalf("RangeText(%v) is %q", none, text)
	}
	for _, x := range knownVersions() {
		if impl.RangeHas(none, x.v) {
			t.Fatalf("RangeHas(%v, %v) is true", none, x.v)
		}
	}
	r, ok := impl.RangeNot(none)
	checkNoRangeTold(t, "RangeNot of none", r, ok)
	for _, other := range []impl.Range{{}, impl.RangeAll(), rangeOf(span(5, 9)), comb(0, 2, 1, 40), none} {
		r, ok = impl.RangeAnd(none, other)
		checkNoRangeTold(t, "RangeAnd of none", r, ok)
		r, ok = impl.RangeAnd(other, none)
		checkNoRangeTold(t, "RangeAnd with none", r, ok)
		r, ok = impl.RangeOr(none, other)
		checkNoRangeTold(t, "RangeOr of none", r, ok)
		r, ok = impl.RangeOr(other, none)
		checkNoRangeTold(t, "RangeOr with none", r, ok)
	}
}

// The way of chapter 2: a range is a row of spans. This does not compile if it is anything else.
func TestRangeIsSpans(t *testing.T) {
	type spans struct{ Spans []impl.Span }
	type ends struct{ Low, High int }
	r := spans(rangeOf(span(5, 9)))
	if ends(r.Spans[0]) != (ends{Low: 5, High: 9}) {
		t.Error("a range is not its spans")
	}
}

func TestRangeConstants(t *testing.T) {
	if impl.SpanMost != 40 {
		t.Error(impl.SpanMost)
	}
}

// P1: what comes of two ranges is told in the one way in which the set of their versions is told, for all sets of some cells.
func TestRangesOfAllSets(t *testing.T) {
	c := fewCells()
	for _, a := range c.sets() {
		ra := c.rangeOf(a)
		if !impl.RangeOk(ra) {
			t.Fatalf("RangeOk(%v) is false", ra)
		}
		checkNot(t, ra, c.rangeOf(notCells(a)))
		for _, b := range c.sets() {
			rb := c.rangeOf(b)
			checkAnd(t, ra, rb, c.rangeOf(andCells(a, b)))
			checkOr(t, ra, rb, c.rangeOf(orCells(a, b)))
		}
	}
}

// P1: with many spans, too many of them among others.
func TestRangesOfPatterns(t *testing.T) {
	c := manyCells()
	for _, a := range c.patterns() {
		ra := c.rangeOf(a)
		if impl.RangeOk(ra) != (len(ra.Spans) <= 40) {
			t.Fatalf("RangeOk of %d spans is wrong", len(ra.Spans))
		}
		if !impl.RangeOk(ra) {
			checkNoRange(t, ra)
			continue
		}
		checkNot(t, ra, c.rangeOf(notCells(a)))
		for _, b := range c.patterns() {
			rb := c.rangeOf(b)
			if len(rb.Spans) <= 40 {
				checkAnd(t, ra, rb, c.rangeOf(andCells(a, b)))
				checkOr(t, ra, rb, c.rangeOf(orCells(a, b)))
			}
		}
	}
}

// P1: what comes of ranges has a version just if truth says so.
func TestRangesHaveWhatIsTrue(t *testing.T) {
	list := edgeRanges()
	var versions []impl.Version
	for _, x := range knownVersions() {
		versions = append(versions, x.v)
	}
	for _, rank := range []int{1, 2, 3, 6, 7, 8, 78, 79, 80, 81, 249997, 249998, 249999, 599998, 599999, 600000, 9999920, 9999921, 9999922} {
		v, _ := impl.VersionAt(rank)
		versions = append(versions, v)
	}
	for _, a := range list {
		not, notOk := impl.RangeNot(a)
		for _, v := range versions {
			rank := impl.VersionRank(v)
			if impl.RangeHas(a, v) != mustHave(a, rank) {
				t.Fatalf("RangeHas(%v, %v) is %v", a, v, impl.RangeHas(a, v))
			}
			if notOk && impl.RangeHas(not, v) == mustHave(a, rank) {
				t.Fatalf("%v is wrongly in RangeNot(%v)", v, a)
			}
		}
		for _, b := range list {
			and, andOk := impl.RangeAnd(a, b)
			or, orOk := impl.RangeOr(a, b)
			for _, v := range versions {
				rank := impl.VersionRank(v)
				if andOk && impl.RangeHas(and, v) != (mustHave(a, rank) && mustHave(b, rank)) {
					t.Fatalf("%v is wrongly in or out of RangeAnd(%v, %v)", v, a, b)
				}
				if orOk && impl.RangeHas(or, v) != (mustHave(a, rank) || mustHave(b, rank)) {
					t.Fatalf("%v is wrongly in or out of RangeOr(%v, %v)", v, a, b)
				}
			}
		}
	}
}

// P1: laying together and cutting go over each other.
func TestRangesGoOverEachOther(t *testing.T) {
	c := fewCells()[3:]
	c[0] = 0
	var list []impl.Range
	for _, in := range c.sets() {
		list = append(list, c.rangeOf(in))
	}
	for _, x := range list {
		for _, y := range list {
			xAndY, _ := impl.RangeAnd(x, y)
			xOrY, _ := impl.RangeOr(x, y)
			for _, z := range list {
				xAndZ, _ := impl.RangeAnd(x, z)
				xOrZ, _ := impl.RangeOr(x, z)
				yAndZ, _ := impl.RangeAnd(y, z)
				yOrZ, _ := impl.RangeOr(y, z)
				laid, _ := impl.RangeOr(xAndY, xAndZ)
				checkAnd(t, x, yOrZ, laid)
				cut, _ := impl.RangeAnd(xOrY, xOrZ)
				checkOr(t, x, yAndZ, cut)
			}
		}
	}
}

// P1: a version that is none is in no range.
func TestNoVersionIsInRange(t *testing.T) {
	for _, r := range edgeRanges() {
		for _, none := range notVersions() {
			if impl.RangeHas(r, none) {
				t.Errorf("RangeHas(%v, %v) is true", r, none)
			}
		}
	}
}

// P1: what would have more than 40 spans is not told, and what has just 40 is.
func TestMostSpans(t *testing.T) {
	// Turning has one span more, but for each end of all ranks at which a span ends.
	checkNot(t, comb(1, 2, 1, 40), rangeOf(make([]impl.Span, 41)...))
	checkNot(t, comb(1, 2, 1, 39), impl.Range{Spans: append(comb(0, 2, 1, 39).Spans, span(78, 9999999))})
	checkNot(t, comb(0, 2, 1, 40), impl.Range{Spans: append(comb(1, 2, 1, 39).Spans, span(79, 9999999))})
	checkNot(t, combToTop(2, 1, 40), impl.Range{Spans: append([]impl.Span{span(0, 9999920)}, comb(9999922, 2, 1, 39).Spans...)})
	checkNot(t, comb(0, 249999, 249998, 40), impl.Range{Spans: append(comb(249998, 249999, 1, 39).Spans, span(9999959, 9999999))})

	// One span of the first comb is cut in two.
	hole := rangeOf(span(0, 2), span(4, 9999999))
	checkAnd(t, comb(1, 10, 5, 40), hole, rangeOf(make([]impl.Span, 41)...))
	checkAnd(t, hole, comb(1, 10, 5, 40), rangeOf(make([]impl.Span, 41)...))
	checkAnd(t, comb(1, 10, 5, 39), hole, impl.Range{Spans: append([]impl.Span{span(1, 2), span(4, 5)}, comb(11, 10, 5, 38).Spans...)})
	checkAnd(t, hole, comb(1, 10, 5, 39), impl.Range{Spans: append([]impl.Span{span(1, 2), span(4, 5)}, comb(11, 10, 5, 38).Spans...)})
	checkAnd(t, comb(0, 10, 9, 40), comb(5, 10, 9, 40), rangeOf(make([]impl.Span, 79)...))
	checkAnd(t, comb(0, 2, 1, 40), impl.RangeAll(), comb(0, 2, 1, 40))
	checkAnd(t, comb(0, 2, 1, 40), comb(1, 2, 1, 40), impl.Range{})

	// One span more lies between two, before the first one, behind the last one, or beside one.
	checkOr(t, comb(1, 10, 5, 40), rangeOf(span(8, 8)), rangeOf(make([]impl.Span, 41)...))
	checkOr(t, rangeOf(span(8, 8)), comb(1, 10, 5, 40), rangeOf(make([]impl.Span, 41)...))
	checkOr(t, comb(2, 10, 5, 40), rangeOf(span(0, 0)), rangeOf(make([]impl.Span, 41)...))
	checkOr(t, comb(2, 10, 5, 40), rangeOf(span(9999999, 9999999)), rangeOf(make([]impl.Span, 41)...))
	checkOr(t, comb(1, 10, 5, 39), rangeOf(span(500, 600)), impl.Range{Spans: append(comb(1, 10, 5, 39).Spans, span(500, 600))})
	checkOr(t, comb(1, 10, 5, 40), rangeOf(span(0, 0)), impl.Range{Spans: append([]impl.Span{span(0, 5)}, comb(11, 10, 5, 39).Spans...)})
	checkOr(t, comb(1, 10, 5, 40), rangeOf(span(6, 10)), impl.Range{Spans: append([]impl.Span{span(1, 15)}, comb(21, 10, 5, 38).Spans...)})
	checkOr(t, comb(0, 10, 5, 40), comb(1000, 10, 5, 40), rangeOf(make([]impl.Span, 80)...))
	checkOr(t, comb(0, 10, 5, 20), comb(1000, 10, 5, 20), impl.Range{Spans: append(comb(0, 10, 5, 20).Spans, comb(1000, 10, 5, 20).Spans...)})

	// What is in neither has 41 spans here, what is in one of two has few.
	checkOr(t, comb(1, 2, 1, 40), comb(1, 2, 1, 40), comb(1, 2, 1, 40))
	checkOr(t, comb(1, 2, 1, 40), comb(2, 2, 1, 40), rangeOf(span(1, 80)))
	checkOr(t, comb(1, 10, 5, 40), impl.RangeAll(), impl.RangeAll())
	checkOr(t, comb(1, 2, 1, 40), impl.Range{}, comb(1, 2, 1, 40))
}

// P42: nothing is a range, and all versions.
func TestNothingAndAllAreRanges(t *testing.T) {
	all := impl.RangeAll()
	if !sameRange(all, rangeOf(span(0, 9999999))) {
		t.Errorf("RangeAll is %v", all)
	}
	for _, r := range []impl.Range{{}, {Spans: []impl.Span{}}, all} {
		if !impl.RangeOk(r) {
			t.Errorf("RangeOk(%v) is false", r)
		}
	}
	for _, x := range knownVersions() {
		if impl.RangeHas(impl.Range{}, x.v) || !impl.RangeHas(all, x.v) {
			t.Errorf("%v is in nothing, or not in all", x.v)
		}
	}
	checkNot(t, impl.Range{}, all)
	checkNot(t, all, impl.Range{})
	for _, r := range edgeRanges() {
		checkAnd(t, r, all, r)
		checkAnd(t, all, r, r)
		checkAnd(t, r, impl.Range{}, impl.Range{})
		checkAnd(t, impl.Range{}, r, impl.Range{})
		checkOr(t, r, impl.Range{}, r)
		checkOr(t, impl.Range{}, r, r)
		checkOr(t, r, all, all)
		checkOr(t, all, r, all)
	}
}

// P42: a range with its first span twice is none.
func TestFirstSpanTwice(t *testing.T) {
	for _, r := range edgeRanges() {
		if !impl.RangeOk(r) {
			t.Errorf("RangeOk(%v) is false", r)
		}
		if len(r.Spans) == 0 {
			continue
		}
		checkNoRange(t, impl.Range{Spans: append([]impl.Span{r.Spans[0]}, r.Spans...)})
		checkNoRange(t, impl.Range{Spans: append(slices.Clone(r.Spans), r.Spans[0])})
		if len(r.Spans) == 40 {
			twice := slices.Clone(r.Spans)
			twice[1] = twice[0]
			checkNoRange(t, impl.Range{Spans: twice})
		}
	}
}

// P42: what is no range is none everywhere.
func TestNoRanges(t *testing.T) {
	for _, none := range notRanges() {
		checkNoRange(t, none)
	}
}

// P42: one rank between two spans is enough, and none is not.
func TestOneRankBetween(t *testing.T) {
	for _, low := range []int{0, 1, 5, 102030, 9999990} {
		if r := rangeOf(span(low, low+3), span(low+5, low+9)); !impl.RangeOk(r) {
			t.Errorf("RangeOk(%v) is false", r)
		}
		checkNoRange(t, rangeOf(span(low, low+3), span(low+4, low+9)))
		checkNoRange(t, rangeOf(span(low, low+3), span(low+3, low+9)))
	}
}

// P43: a version is in a range just if the range of it alone, cut with that, is itself.
func TestRangeOfOneCut(t *testing.T) {
	for _, r := range edgeRanges() {
		for _, v := range edgeVersions() {
			one := impl.RangeOne(v)
			has := mustHave(r, impl.VersionRank(v))
			if impl.RangeHas(r, v) != has {
				t.Fatalf("RangeHas(%v, %v) is %v", r, v, !has)
			}
			cut, ok := impl.RangeAnd(one, r)
			if !ok || sameRange(cut, one) != has || (!has && len(cut.Spans) != 0) {
				t.Fatalf("%v cut with %v is %v, %v", one, r, cut, ok)
			}
		}
	}
	for _, none := range notVersions() {
		if one := impl.RangeOne(none); len(one.Spans) != 0 {
			t.Errorf("RangeOne(%v) is %v", none, one)
		}
	}
}

// P43: of both ends of each span, and of the ranks beside them.
func TestRangeHasEnds(t *testing.T) {
	for _, r := range edgeRanges() {
		for _, x := range r.Spans {
			for _, rank := range []int{x.Low - 1, x.Low, x.High, x.High + 1} {
				v, ok := impl.VersionAt(rank)
				if ok && impl.RangeHas(r, v) != mustHave(r, rank) {
					t.Fatalf("RangeHas(%v, %v) is wrong", r, v)
				}
			}
		}
	}
}

// P44: twice turned a range is itself, and nothing is in it and in what it is turned to.
func TestTurnedTwice(t *testing.T) {
	list := edgeRanges()
	c := fewCells()
	for _, in := range c.sets() {
		list = append(list, c.rangeOf(in))
	}
	for _, r := range list {
		not, ok := impl.RangeNot(r)
		if !ok {
			checkNoRangeTold(t, "RangeNot", not, ok)
			if len(r.Spans) != 40 || r.Spans[0].Low == 0 || r.Spans[39].High == 9999999 {
				t.Fatalf("%v is not turned", r)
			}
			continue
		}
		checkNot(t, not, r)
		checkAnd(t, r, not, impl.Range{})
		checkOr(t, r, not, impl.RangeAll())
	}
}

// P45: what is in both is in each, in whichever order.
func TestInBothIsInEach(t *testing.T) {
	list := edgeRanges()
	for _, a := range list {
		for _, b := range list {
			both, ok := impl.RangeAnd(a, b)
			other, otherOk := impl.RangeAnd(b, a)
			if ok != otherOk || !sameRange(both, other) {
				t.Fatalf("RangeAnd(%v, %v) hangs on the order", a, b)
			}
			if !ok {
				continue
			}
			checkAnd(t, both, a, both)
			checkAnd(t, both, b, both)
			checkOr(t, both, a, a)
			checkOr(t, both, b, b)
		}
		checkAnd(t, a, a, a)
	}
}

// P46: what is in one of two is told as what is not in neither, in whichever order.
func TestInOneOfTwo(t *testing.T) {
	list := edgeRanges()
	for _, a := range list {
		for _, b := range list {
			or, ok := impl.RangeOr(a, b)
			other, otherOk := impl.RangeOr(b, a)
			if ok != otherOk || !sameRange(or, other) {
				t.Fatalf("RangeOr(%v, %v) hangs on the order", a, b)
			}
			notA, aOk := impl.RangeNot(a)
			notB, bOk := impl.RangeNot(b)
			neither, bothOk := impl.RangeAnd(notA, notB)
			if aOk && bOk && bothOk {
				must, mustOk := impl.RangeNot(neither)
				if ok != mustOk || !sameRange(or, must) {
					t.Fatalf("RangeOr(%v, %v) is %v, not %v", a, b, or, must)
				}
			}
		}
		checkOr(t, a, a, a)
	}
}

// P47: what fits, written out by hand.
func TestKnownRangesFrom(t *testing.T) {
	for _, x := range []struct {
		v    impl.Version
		must impl.Span
	}{
		{version(0, 0, 0, 1), span(0, 999)},
		{version(0, 0, 0, 0), span(9, 999)},
		{version(0, 0, 99, 0), span(999, 999)},
		{version(0, 1, 0, 1), span(1000, 1999)},
		{version(0, 1, 2, 3), span(1022, 1999)},
		{version(0, 99, 0, 0), span(99009, 99999)},
		{version(0, 99, 99, 0), span(99999, 99999)},
		{version(1, 0, 0, 1), span(100000, 199999)},
		{version(1, 0, 0, 0), span(100009, 199999)},
		{version(1, 2, 0, 0), span(102009, 199999)},
		{version(1, 99, 99, 9), span(199998, 199999)},
		{version(1, 99, 99, 0), span(199999, 199999)},
		{version(98, 99, 99, 0), span(9899999, 9899999)},
		{version(99, 0, 0, 1), span(9900000, 9999999)},
		{version(99, 99, 99, 1), span(9999990, 9999999)},
		{version(99, 99, 99, 0), span(9999999, 9999999)},
	} {
		if r := impl.RangeFrom(x.v); !sameRange(r, rangeOf(x.must)) {
			t.Errorf("RangeFrom(%v) is %v, not %v", x.v, r, x.must)
		}
	}
	for _, none := range notVersions() {
		if r := impl.RangeFrom(none); len(r.Spans) != 0 {
			t.Errorf("RangeFrom(%v) is %v", none, r)
		}
	}
}

// P47: a version fits with itself, and with none of another Major, nor with one before it.
func TestVersionsThatFit(t *testing.T) {
	list := edgeVersions()
	for _, v := range list {
		r := impl.RangeFrom(v)
		if !impl.RangeOk(r) || !impl.RangeHas(r, v) {
			t.Fatalf("RangeFrom(%v) is %v", v, r)
		}
		for _, w := range list {
			must := v.Major == w.Major && (v.Major != 0 || v.Minor == w.Minor) && !mustLess(w, v)
			if impl.RangeHas(r, w) != must {
				t.Fatalf("%v fits with %v: %v", w, v, !must)
			}
		}
	}
}

// P48: in the range of one version is this one alone.
func TestRangeOfOne(t *testing.T) {
	list := edgeVersions()
	for _, v := range list {
		rank := impl.VersionRank(v)
		r := impl.RangeOne(v)
		if !impl.RangeOk(r) || !sameRange(r, rangeOf(span(rank, rank))) {
			t.Fatalf("RangeOne(%v) is %v", v, r)
		}
		for _, w := range list {
			if impl.RangeHas(r, w) != (v == w) {
				t.Fatalf("RangeHas(RangeOne(%v), %v) is %v", v, w, v != w)
			}
		}
	}
	for _, none := range notVersions() {
		r := impl.RangeOne(none)
		if len(r.Spans) != 0 {
			t.Errorf("RangeOne(%v) is %v", none, r)
		}
	}
}

// rangeRead reads a text back into spans, without impl but for the versions.
func rangeRead(t *testing.T, text string) impl.Range {
	t.Helper()
	if text == "-" {
		return impl.Range{}
	}
	var r impl.Range
	for _, part := range strings.Split(text, " | ") {
		first, last, two := strings.Cut(part, "..")
		if !two {
			last = first
		}
		low, lowOk := impl.VersionFrom(first)
		high, highOk := impl.VersionFrom(last)
		if !lowOk || !highOk || (two && first == last) {
			t.Fatalf("%q in %q is no span", part, text)
		}
		r.Spans = append(r.Spans, span(impl.VersionRank(low), impl.VersionRank(high)))
	}
	return r
}

// P49: what is written of the ends of spans is read back.
func TestRangeTextIsReadBack(t *testing.T) {
	for _, x := range knownRanges() {
		if text := impl.RangeText(x.r); text != x.text {
			t.Errorf("RangeText(%v) is %q, not %q", x.r, text, x.text)
		}
	}
	for _, r := range edgeRanges() {
		text := impl.RangeText(r)
		if text != mustRangeText(r) {
			t.Errorf("RangeText(%v) is %q", r, text)
		}
		if back := rangeRead(t, text); !sameRange(back, r) {
			t.Errorf("%q is read back as %v, not %v", text, back, r)
		}
	}
	for _, none := range notRanges() {
		if text := impl.RangeText(none); text != "" {
			t.Errorf("RangeText(%v) is %q", none, text)
		}
	}
}

// P49: no two ranges are written alike.
func TestNoTextTwice(t *testing.T) {
	c := fewCells()
	seen := map[string]impl.Range{}
	for _, in := range c.sets() {
		r := c.rangeOf(in)
		text := impl.RangeText(r)
		if other, twice := seen[text]; twice {
			t.Fatalf("%v and %v are both %q", r, other, text)
		}
		seen[text] = r
		if text != mustRangeText(r) || !sameRange(rangeRead(t, text), r) {
			t.Fatalf("RangeText(%v) is %q", r, text)
		}
	}
}

// P1: what comes of ranges shares no memory with them, and they are as they were.
func TestRangesShareNothing(t *testing.T) {
	for _, a := range append(edgeRanges(), notRanges()...) {
		for _, b := range append(edgeRanges()[:14], notRanges()[:4]...) {
			ra := handed(a)
			rb := handed(b)
			was := wholeText(ra, rb)
			not, _ := impl.RangeNot(ra)
			and, _ := impl.RangeAnd(ra, rb)
			or, _ := impl.RangeOr(ra, rb)
			impl.RangeOk(ra)
			impl.RangeText(ra)
			impl.RangeHas(ra, version(1, 2, 3, 0))
			checkMemory(t, "a range", was, []any{ra, rb}, []any{not, and, or})
		}
	}
}

// P42 and P48: what is told anew is new.
func TestRangesAreNew(t *testing.T) {
	v := version(1, 2, 3, 0)
	if shared([]any{impl.RangeAll(), impl.RangeAll(), impl.RangeFrom(v), impl.RangeFrom(v), impl.RangeOne(v), impl.RangeOne(v)}, nil) {
		t.Error("two ranges share memory")
	}
}
