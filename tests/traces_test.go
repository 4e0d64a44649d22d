package tests

import (
	"fmt"
	"math"
	"slices"
	"testing"

	"loop.example/packageworld/impl"
)

func saw(in int, text string) impl.Seen {
	return impl.Seen{In: in, Text: text}
}

func trace(m impl.Made, s []impl.Line, many int, reads ...impl.Seen) impl.Trace {
	return impl.Trace{S: s, Many: many, Reads: reads, M: m}
}

// traceOf is the trace of a script on inputs, told without impl.
func traceOf(s []impl.Line, ins ...string) impl.Trace {
	ran := mustRan(roomOf(s, ins...))
	x := trace(impl.Made{Ok: ran.Code == 0, Text: ran.Out}, s, len(ins))
	for _, in := range ran.Reads {
		x.Reads = append(x.Reads, saw(in, ins[in]))
	}
	return x
}

func traces(list ...impl.Trace) []impl.Trace {
	return list
}

func sameTrace(a impl.Trace, b impl.Trace) bool {
	return slices.Equal(a.S, b.S) && a.Many == b.Many && slices.Equal(a.Reads, b.Reads) && a.M == b.M
}

func sameTraces(a []impl.Trace, b []impl.Trace) bool {
	return slices.EqualFunc(a, b, sameTrace)
}

func isTraced(list []impl.Trace, x impl.Trace) bool {
	return slices.ContainsFunc(list, func(y impl.Trace) bool { return sameTrace(x, y) })
}

// tracesText tells traces with all bytes that are no letters, one a line.
func tracesText(list []impl.Trace) string {
	text := ""
	for place, x := range list {
		text += fmt.Sprintf("\n%d: %v %q by %#v for %d, of which was read %#v", place, x.M.Ok, x.M.Text, x.S, x.Many, x.Reads)
	}
	return text
}

// tracesOf are those of what entries are kept of, each once.
func tracesOf(list []impl.Entry) []impl.Trace {
	var all []impl.Trace
	for _, e := range list {
		if x := traceOf(e.S, e.Ins...); !isTraced(all, x) {
			all = append(all, x)
		}
	}
	return all
}

// fillerTraces are so many traces that no world of these tests asks for.
func fillerTraces(many int) []impl.Trace {
	var list []impl.Trace
	for _, e := range fillers(many) {
		list = append(list, trace(e.M, e.S, 0))
	}
	return list
}

func checkTraceOf(t *testing.T, s []impl.Line, ins []string, must impl.Trace) {
	t.Helper()
	if x, ok := impl.TraceOf(s, ins); !ok || !sameTrace(x, must) {
		t.Fatalf("TraceOf is %v,%s\nnot%s\nof %#v on %q", ok, tracesText(traces(x)), tracesText(traces(must)), s, ins)
	}
}

func checkNoTraceOf(t *testing.T, s []impl.Line, ins []string) {
	t.Helper()
	if x, ok := impl.TraceOf(s, ins); ok || !sameTrace(x, impl.Trace{}) {
		t.Fatalf("TraceOf is %v,%s\nof %#v on %q", ok, tracesText(traces(x)), s, ins)
	}
}

func checkFits(t *testing.T, x impl.Trace, s []impl.Line, ins []string, must bool) {
	t.Helper()
	if impl.TraceFits(x, s, ins) != must {
		t.Fatalf("TraceFits is %v of%s\non %#v and %q", !must, tracesText(traces(x)), s, ins)
	}
}

func checkTraces(t *testing.T, list []impl.Trace, must bool) {
	t.Helper()
	if impl.TracesOk(list) != must {
		t.Fatalf("TracesOk is %v of%s", !must, tracesText(list))
	}
}

// traceBuild is what a build by traces tells.
type traceBuild struct {
	made []impl.Made
	list []impl.Trace
	ran  []int
}

func buildTraced(w []impl.Target, list []impl.Trace) traceBuild {
	made, kept, ran := impl.TraceBuild(w, list)
	return traceBuild{made: made, list: kept, ran: ran}
}

func tracedText(b traceBuild) string {
	return fmt.Sprintf("%v, run %v, kept%s", b.made, b.ran, tracesText(b.list))
}

func checkTraceBuild(t *testing.T, w []impl.Target, list []impl.Trace, must traceBuild) {
	t.Helper()
	b := buildTraced(w, list)
	if !slices.Equal(b.made, must.made) || !slices.Equal(b.ran, must.ran) || !sameTraces(b.list, must.list) {
		t.Fatalf("TraceBuild is %s\nnot %s\nof%s\nwith%s", tracedText(b), tracedText(must), worldText(w), tracesText(list))
	}
}

// checkTracedAgain holds which steps are run by traces.
func checkTracedAgain(t *testing.T, w []impl.Target, list []impl.Trace, must ...int) {
	t.Helper()
	if b := buildTraced(w, list); !slices.Equal(b.ran, must) {
		t.Fatalf("%v are run, not %v, of%s\nby%s", b.ran, must, worldText(w), tracesText(list))
	}
}

// mustFitTrace reports whether the document has a trace fit: all that it read is among all that can be read.
func mustFitTrace(x impl.Trace, s []impl.Line, ins []string) bool {
	var there []impl.Seen
	for in, text := range ins {
		there = append(there, saw(in, text))
	}
	isElse := slices.ContainsFunc(x.Reads, func(r impl.Seen) bool { return !slices.Contains(there, r) })
	return !isElse && x.Many == len(ins) && slices.Equal(x.S, s)
}

// tracedStep is a step of a world of which all inputs are made: its place, and its own trace.
type tracedStep struct {
	at int
	x  impl.Trace
}

// tracedOf are those steps of a world, told without impl.
func tracedOf(w []impl.Target) []tracedStep {
	var list []tracedStep
	for _, a := range askedOf(w) {
		list = append(list, tracedStep{a.at, traceOf(a.e.S, a.e.Ins...)})
	}
	return list
}

// untracedOf are those steps that are the first ones whose own trace is not kept.
func untracedOf(all []tracedStep, list []impl.Trace) []tracedStep {
	var fresh []tracedStep
	for _, a := range all {
		isFirst := !slices.ContainsFunc(fresh, func(b tracedStep) bool { return sameTrace(a.x, b.x) })
		if isFirst && !isTraced(list, a.x) {
			fresh = append(fresh, a)
		}
	}
	return fresh
}

// mustTrace is what the document has a build by traces tell. A step finds a trace just if its own one is kept by then, as no other right one fits it; and it is known before the build for which ones there is room.
func mustTrace(w []impl.Target, list []impl.Trace) traceBuild {
	all := tracedOf(w)
	fresh := untracedOf(all, list)
	fresh = fresh[:min(len(fresh), 60-len(list))]
	must := traceBuild{made: mustBuild(w), list: slices.Clone(list)}
	for _, a := range fresh {
		must.list = append(must.list, a.x)
	}
	for _, a := range all {
		isFound := slices.ContainsFunc(fresh, func(b tracedStep) bool { return b.at < a.at && sameTrace(a.x, b.x) })
		if !isFound && !isTraced(list, a.x) {
			must.ran = append(must.ran, a.at)
		}
	}
	return must
}

// mustBeRightTraces reports whether the document has traces be right.
func mustBeRightTraces(list []impl.Trace) bool {
	for place, x := range list {
		if x.Many < 0 || x.Many > 5 || !impl.ScriptOk(x.S, x.Many) || isTraced(list[place+1:], x) {
			return false
		}
		ins := make([]string, x.Many)
		for in := range ins {
			if at := slices.IndexFunc(x.Reads, func(r impl.Seen) bool { return r.In == in }); at >= 0 {
				ins[in] = x.Reads[at].Text
			}
		}
		if !impl.ThingsOk(ins) || !sameTrace(x, traceOf(x.S, ins...)) {
			return false
		}
	}
	return len(list) <= 60
}

// tracing is a world and the traces that are kept when it is built.
type tracing struct {
	w    []impl.Target
	list []impl.Trace
}

// rolledTraces are what can be kept when a world is built: traces of some of its steps, of what is like these, and of what has nothing to do with it, in any order; of some there is no room for more, or for few.
func rolledTraces(d *dice, w []impl.Target) []impl.Trace {
	list := tracesOf(rolledAround(d, w))
	if d.roll(2) == 0 {
		list = append(list, fillerTraces(60-d.roll(7)-len(list))...)
	}
	return shuffled(d, list)
}

func rolledTracings(seed uint64, many int) []tracing {
	d := &dice{state: seed}
	var all []tracing
	for range many {
		w := rolledWorld(d, d.roll(13))
		if d.roll(2) == 0 {
			w = doubled(d, w)
		}
		all = append(all, tracing{w, rolledTraces(d, w)})
	}
	return all
}

// smallTracings are all small worlds, each with nothing kept, with all traces of its steps but one, and where there is room for one more, or for none.
func smallTracings() []tracing {
	var all []tracing
	for _, w := range smallWorlds(3) {
		var own []impl.Trace
		for _, a := range untracedOf(tracedOf(w), nil) {
			own = append(own, a.x)
		}
		all = append(all, tracing{w, nil}, tracing{w, own}, tracing{w, fillerTraces(59)}, tracing{w, fillerTraces(60)})
		for place := range own {
			all = append(all, tracing{w, without(own, place)}, tracing{w, append(fillerTraces(59), own[place])})
		}
	}
	return all
}

// tracings are worlds and traces of which it is asked what a build by these tells.
func tracings() []tracing {
	all := append(smallTracings(), rolledTracings(17, 5000)...)
	for _, x := range knownTracings() {
		all = append(all, x.tracing)
	}
	d := &dice{state: 171}
	for _, x := range knownWorlds() {
		all = append(all, tracing{x.w, nil}, tracing{x.w, rolledTraces(d, x.w)})
	}
	for _, x := range knownKeepings() {
		all = append(all, tracing{x.w, tracesOf(x.list)})
	}
	return all
}

// knownTrace is a script on inputs of which the trace was found by hand.
type knownTrace struct {
	ins []string
	x   impl.Trace
}

func tracedOn(x impl.Trace, ins ...string) knownTrace {
	return knownTrace{ins, x}
}

// knownTraces are traces at the edges that the document names.
func knownTraces() []knownTrace {
	long := bytesOf(40)
	read, pick := script(lineRead(0)), script(lineSkip(0, 1), lineRead(1), linePut("y"))
	return []knownTrace{
		// Nothing read: without lines, without inputs, and where all lines that read are passed by, which is read all the same.
		tracedOn(trace(madeOf(""), nil, 0)),
		tracedOn(trace(madeOf(""), nil, 5), "a", "!", "", long, "b"),
		tracedOn(trace(madeOf("x"), script(linePut("x")), 0)),
		tracedOn(trace(madeOf("x"), script(linePut("x"), lineTurn(), lineKeep(1)), 2), "a", "!"),
		tracedOn(trace(madeOf(""), script(lineSkip(0, 10), lineRead(1)), 2, saw(0, "")), "", "b"),
		// Some of the inputs read, by hap of another one.
		tracedOn(trace(madeOf("y"), pick, 2, saw(0, "")), "", "x"),
		tracedOn(trace(madeOf("xy"), pick, 2, saw(0, "b"), saw(1, "x")), "b", "x"),
		tracedOn(trace(madeOf("y"), pick, 2, saw(0, "b"), saw(1, "")), "b", ""),
		tracedOn(trace(madeOf("a"), read, 1, saw(0, "a")), "a"),
		tracedOn(trace(madeOf("a"), read, 3, saw(0, "a")), "a", "b", "c"),
		tracedOn(trace(madeOf("c"), script(lineRead(2)), 3, saw(2, "c")), "a", "b", "c"),
		tracedOn(trace(madeOf("e"), script(lineRead(4)), 5, saw(4, "e")), "a", "b", "c", "d", "e"),
		// An input is read once, however often a script reads it, and stands where it was read first.
		tracedOn(trace(madeOf("aa"), script(lineRead(0), lineRead(0)), 1, saw(0, "a")), "a"),
		tracedOn(trace(madeOf("ba"), script(lineRead(1), lineRead(0)), 2, saw(1, "b"), saw(0, "a")), "a", "b"),
		tracedOn(trace(madeOf("bab"), script(lineRead(1), lineRead(0), lineRead(1)), 2, saw(1, "b"), saw(0, "a")), "a", "b"),
		tracedOn(trace(madeOf("aa"), script(lineFail(1), lineSkip(0, 1), lineRead(1), lineRead(0)), 2, saw(1, "a"), saw(0, "a")), "a", "a"),
		tracedOn(trace(madeOf("edcba"), script(lineRead(4), lineRead(3), lineRead(2), lineRead(1), lineRead(0)), 5, saw(4, "e"), saw(3, "d"), saw(2, "c"), saw(1, "b"), saw(0, "a")), "a", "b", "c", "d", "e"),
		// What was read and does not show in what was made.
		tracedOn(trace(madeOf(""), script(lineRead(0), lineKeep(0)), 1, saw(0, "a")), "a"),
		tracedOn(trace(madeOf("x"), script(lineFail(0), linePut("x")), 1, saw(0, "x!")), "x!"),
		tracedOn(trace(madeOf("z"), script(lineSkip(0, 1), linePut("z")), 1, saw(0, " ")), " "),
		// It failed, or made too much: it read up to there.
		tracedOn(trace(notMade(), script(lineFail(0)), 1, saw(0, "!")), "!"),
		tracedOn(trace(notMade(), script(lineRead(1), lineFail(0), lineRead(2)), 3, saw(1, "b"), saw(0, "!a")), "!a", "b", "c"),
		tracedOn(trace(notMade(), script(lineRead(0), linePut("z"), lineRead(1)), 2, saw(0, long)), long, "b"),
		tracedOn(trace(notMade(), script(lineRead(1), lineRead(0)), 2, saw(1, "z"), saw(0, long)), long, "z"),
		tracedOn(trace(notMade(), slices.Repeat(script(linePut(bytesOf(8))), 6), 1), "a"),
		// Texts of as many bytes as there can be, and of bytes that are no letters.
		tracedOn(trace(madeOf(long), read, 1, saw(0, long)), long),
		tracedOn(trace(madeOf("\xff\x00"), script(lineRead(1), lineTurn()), 2, saw(1, "\x00\xff")), "é", "\x00\xff"),
		tracedOn(trace(madeOf(""), slices.Repeat(script(lineTurn()), 10), 5), "a", "b", "c", "d", "e"),
	}
}

// P16 and P87: traces that were told by hand; each fits what it is of, and is right.
func TestKnownTraces(t *testing.T) {
	for _, k := range knownTraces() {
		checkTraceOf(t, k.x.S, k.ins, k.x)
		checkFits(t, k.x, k.x.S, k.ins, true)
		checkTraces(t, traces(k.x), true)
		if must := traceOf(k.x.S, k.ins...); !sameTrace(must, k.x) {
			t.Fatalf("it is told otherwise:%s\nnot%s", tracesText(traces(must)), tracesText(traces(k.x)))
		}
	}
	for _, k := range knownRooms() {
		if slices.Contains(k.r.open, false) {
			continue
		}
		must := trace(impl.Made{Ok: k.must.Code == impl.RunFine, Text: k.must.Out}, k.r.s, len(k.r.ins))
		for _, in := range k.must.Reads {
			must.Reads = append(must.Reads, saw(in, k.r.ins[in]))
		}
		checkTraceOf(t, k.r.s, k.r.ins, must)
	}
}

// P87: a trace is just what is told in another way of what a script reads and makes.
func TestTracesAreAsTold(t *testing.T) {
	fine, failed, some, none := 0, 0, 0, 0
	for _, r := range append(roomsToRead(), rolledRooms(87, 30000)...) {
		must := traceOf(r.s, r.ins...)
		checkTraceOf(t, r.s, r.ins, must)
		if must.M.Ok {
			fine++
		} else {
			failed++
		}
		switch {
		case len(must.Reads) == 0:
			none++
		case len(must.Reads) < len(r.ins):
			some++
		}
	}
	if min(fine, failed, some, none) < 3000 {
		t.Errorf("runs are fine %d times, and not %d times; some inputs are read %d times, and none %d times", fine, failed, some, none)
	}
}

// P87: a trace fits what it is of, and tells what is made there, and what was read: the texts of the inputs that a run reads, each once.
func TestTraceFitsWhatItIsOf(t *testing.T) {
	for _, r := range append(roomsToRead(), rolledRooms(870, 10000)...) {
		x, ok := impl.TraceOf(r.s, r.ins)
		checkFits(t, x, r.s, r.ins, true)
		checkTraces(t, traces(x), true)
		ran := run(roomOf(r.s, r.ins...))
		if !ok || x.M != (impl.Made{Ok: ran.Code == impl.RunFine, Text: ran.Out}) || !slices.Equal(x.S, r.s) || x.Many != len(r.ins) || len(x.Reads) != len(ran.Reads) {
			t.Fatalf("TraceOf is%s\nand the run of %s is %s", tracesText(traces(x)), roomText(r), ranText(ran))
		}
		for place, in := range ran.Reads {
			if x.Reads[place] != saw(in, r.ins[in]) {
				t.Fatalf("TraceOf is%s\nand the run of %s is %s", tracesText(traces(x)), roomText(r), ranText(ran))
			}
		}
	}
}

// The number that chapter 12 names.
func TestTraceNumber(t *testing.T) {
	if impl.TraceMost != 60 {
		t.Errorf("TraceMost is %d", impl.TraceMost)
	}
}

// P16: whatever other texts the inputs have that were not read, one of them or all, the trace fits, the script makes the same, and its trace is the same.
func TestTraceFitsOtherInputs(t *testing.T) {
	fine, failed := 0, 0
	things := okThings()
	d := &dice{state: 16}
	for _, r := range roomsToRead() {
		r = roomOf(r.s, r.ins...)
		x, _ := impl.TraceOf(r.s, r.ins)
		rolled := r
		for _, in := range unread(r, run(r)) {
			for _, text := range things {
				checkFitsAlike(t, x, otherThing(r, in, text))
			}
			rolled = otherThing(rolled, in, rolledThing(d))
			checkFitsAlike(t, x, rolled)
			if x.M.Ok {
				fine++
			} else {
				failed++
			}
		}
	}
	if min(fine, failed) < 3000 {
		t.Errorf("inputs are not read %d times where it is made, and %d times where it is not", fine, failed)
	}
}

// checkFitsAlike holds that a trace fits a room, and tells what comes of it.
func checkFitsAlike(t *testing.T, x impl.Trace, r room) {
	t.Helper()
	checkFits(t, x, r.s, r.ins, true)
	checkTraceOf(t, r.s, r.ins, x)
	if ran := run(r); x.M != (impl.Made{Ok: ran.Code == impl.RunFine, Text: ran.Out}) {
		t.Fatalf("%s is %s, and not as in%s", roomText(r), ranText(ran), tracesText(traces(x)))
	}
}

// P16: if an input that was read has another text, whichever one, and however little it shows, the trace does not fit, and the trace is another one.
func TestTraceDoesNotFitOtherReads(t *testing.T) {
	many, alike := 0, 0
	things := okThings()
	for _, r := range roomsToRead() {
		x, _ := impl.TraceOf(r.s, r.ins)
		for _, seen := range x.Reads {
			for _, text := range with(things, 0, seen.Text+"a") {
				if text == seen.Text || len(text) > 40 {
					continue
				}
				other := otherThing(r, seen.In, text)
				checkFits(t, x, r.s, other.ins, false)
				y, _ := impl.TraceOf(r.s, other.ins)
				if sameTrace(x, y) {
					t.Fatalf("the trace of %#v on %q is that on %q", r.s, r.ins, other.ins)
				}
				many++
				if x.M == y.M {
					alike++
				}
			}
		}
	}
	if many < 50000 || alike < 5000 {
		t.Errorf("inputs that were read change %d times, and the same is made %d times", many, alike)
	}
}

// P16: of each small script on all inputs, a trace fits others just if the trace on these is the same; then the same is made.
func TestFitsJustIfTraceIsTheSame(t *testing.T) {
	lines := script(lineRead(0), lineRead(1), linePut("xyz"), lineSkip(0, 1), lineSkip(1, 2), lineTurn(), lineKeep(2), lineFail(0), lineFail(1))
	var things [][]string
	for _, ins := range rows([]string{"", "!b", "a!", bytesOf(38)}, 2) {
		if len(ins) == 2 {
			things = append(things, ins)
		}
	}
	fits, apart := 0, 0
	for _, s := range rows(lines, 3) {
		var all []impl.Trace
		for _, ins := range things {
			x, _ := impl.TraceOf(s, ins)
			all = append(all, x)
		}
		for i, x := range all {
			for j, y := range all {
				checkFits(t, x, s, things[j], sameTrace(x, y))
				switch {
				case i == j:
				case sameTrace(x, y):
					fits++
				default:
					apart++
				}
			}
		}
	}
	if min(fits, apart) < 20000 {
		t.Errorf("a trace fits other inputs %d times, and not %d times", fits, apart)
	}
}

// knownFit is a trace of which was found by hand whether it fits a script on inputs.
type knownFit struct {
	x    impl.Trace
	s    []impl.Line
	ins  []string
	must bool
}

// P16 and P87: fits that were told by hand.
func TestKnownFitsOfTraces(t *testing.T) {
	read, both, put := script(lineRead(0)), script(lineRead(0), lineRead(1)), script(linePut("x"))
	readA, putX := trace(madeOf("a"), read, 1, saw(0, "a")), trace(madeOf("x"), put, 1)
	second := trace(madeOf("b"), script(lineRead(1)), 2, saw(1, "b"))
	none, pair := trace(madeOf(""), nil, 0), trace(madeOf("ab"), both, 2, saw(0, "a"), saw(1, "b"))
	for _, k := range []knownFit{
		// The text that was read, and others; one that begins with it, one that it begins with, and none.
		{readA, read, []string{"a"}, true}, {readA, read, []string{"b"}, false}, {readA, read, []string{"ab"}, false}, {readA, read, []string{""}, false}, {readA, read, []string{"A"}, false}, {trace(madeOf("ab"), read, 1, saw(0, "ab")), read, []string{"a"}, false},
		// Another number of inputs.
		{readA, read, []string{"a", "a"}, false}, {readA, read, []string{"a", ""}, false}, {readA, read, nil, false}, {putX, put, nil, false}, {putX, put, []string{"a", "b"}, false}, {trace(madeOf("x"), put, 2), put, []string{"a"}, false}, {none, nil, []string{""}, false}, {trace(madeOf(""), nil, 1), nil, nil, false},
		// Another script that reads the same, one that makes the same of it, one with fewer lines and one with more.
		{readA, script(lineRead(0), lineTurn()), []string{"a"}, false}, {readA, script(lineRead(0), linePut("")), []string{"a"}, false}, {readA, nil, []string{"a"}, false}, {readA, script(lineFail(0)), []string{"a"}, false}, {trace(madeOf("x"), put, 0), script(linePut("y")), nil, false}, {trace(madeOf("x"), script(linePut("x"), lineTurn()), 0), put, nil, false},
		{pair, script(lineRead(1), lineRead(0)), []string{"a", "b"}, false}, {second, read, []string{"b", "b"}, false},
		// Nothing read: all texts fit, and nothing is there to be read.
		{putX, put, []string{"a"}, true}, {putX, put, []string{""}, true}, {putX, put, []string{"!"}, true}, {putX, put, []string{bytesOf(40)}, true}, {none, nil, nil, true}, {none, script(), []string{}, true}, {trace(madeOf(""), script(), 0), nil, nil, true}, {impl.Trace{}, nil, nil, true}, {impl.Trace{Reads: []impl.Seen{}, S: script()}, nil, nil, true},
		// One of two read, and the other one has another text, or both; the same texts at other inputs.
		{second, script(lineRead(1)), []string{"a", "b"}, true}, {second, script(lineRead(1)), []string{"!", "b"}, true}, {second, script(lineRead(1)), []string{"b", "b"}, true}, {second, script(lineRead(1)), []string{"b", "a"}, false}, {second, script(lineRead(1)), []string{"", ""}, false},
		{pair, both, []string{"a", "b"}, true}, {pair, both, []string{"b", "a"}, false}, {pair, both, []string{"a", "a"}, false}, {pair, both, []string{"ab", ""}, false}, {pair, both, []string{"", "ab"}, false},
		// In whichever order it read, and what it made does not count, nor whether it is right.
		{trace(madeOf("ab"), both, 2, saw(1, "b"), saw(0, "a")), both, []string{"a", "b"}, true}, {trace(notMade(), read, 1, saw(0, "a")), read, []string{"a"}, true}, {trace(madeOf("z"), read, 1, saw(0, "a")), read, []string{"a"}, true},
		{trace(madeOf("a"), read, 1), read, []string{"b"}, true}, {trace(madeOf("x"), put, 1, saw(0, "a")), put, []string{"b"}, false}, {trace(madeOf("x"), put, 1, saw(0, "a")), put, []string{"a"}, true}, {trace(madeOf("a"), read, 1, saw(0, "a"), saw(0, "a")), read, []string{"a"}, true},
		{trace(madeOf("a"), read, 1, saw(0, "a"), saw(0, "b")), read, []string{"a"}, false}, {trace(madeOf("a"), read, 1, saw(0, "a"), saw(0, "b")), read, []string{"b"}, false}, {trace(madeOf("a"), read, 2, saw(0, "a")), read, []string{"a", bytesOf(41)}, true},
		{trace(notMade(), script(lineRead(7)), 1, saw(0, "a")), script(lineRead(7)), []string{"a"}, true}, {trace(madeOf(""), nil, 6, saw(5, "f")), nil, []string{"a", "b", "c", "d", "e", "f"}, true},
		// An input that is not there.
		{trace(madeOf("a"), read, 1, saw(1, "a")), read, []string{"a"}, false}, {trace(madeOf("a"), read, 1, saw(-1, "a")), read, []string{"a"}, false}, {trace(madeOf("a"), read, 1, saw(1, "")), read, []string{""}, false}, {trace(madeOf(""), nil, 0, saw(0, "")), nil, nil, false}, {trace(madeOf("a"), read, 1, saw(0, "a"), saw(1, "")), read, []string{"a"}, false},
		{trace(madeOf("a"), read, 1, saw(math.MaxInt, "a")), read, []string{"a"}, false}, {trace(madeOf("a"), read, 1, saw(math.MinInt, "a")), read, []string{"a"}, false}, {trace(madeOf("a"), read, -1), read, nil, false}, {trace(madeOf("a"), read, math.MaxInt, saw(0, "a")), read, []string{"a"}, false}, {trace(madeOf("a"), read, math.MinInt, saw(0, "a")), read, []string{"a"}, false},
		{trace(madeOf("a"), read, 2, saw(1, "a")), read, []string{"a"}, false},
	} {
		checkFits(t, k.x, k.s, k.ins, k.must)
		if mustFitTrace(k.x, k.s, k.ins) != k.must {
			t.Fatalf("it is told otherwise: %v", k)
		}
	}
}

// P16 and P87: of all that is like each other, right or not, a trace fits just what is told in another way.
func TestFitsAreAsTold(t *testing.T) {
	var list []impl.Trace
	asked := lookups()
	for _, e := range asked {
		if impl.ScriptOk(e.S, len(e.Ins)) {
			list = append(list, traceOf(e.S, e.Ins...))
		}
	}
	list = append(list, tracesNotRight()...)
	d := &dice{state: 160}
	fits, apart := 0, 0
	for _, x := range list {
		for _, e := range asked {
			must := mustFitTrace(x, e.S, e.Ins)
			checkFits(t, x, e.S, e.Ins, must)
			if must {
				fits++
			} else {
				apart++
			}
		}
	}
	for range 20000 {
		e := rolledEntry(d)
		x := traceChanged(d, traceOf(e.S, e.Ins...))
		other := near(d, e)
		for _, y := range entries(e, other) {
			checkFits(t, x, y.S, y.Ins, mustFitTrace(x, y.S, y.Ins))
		}
	}
	if min(fits, apart) < 1000 {
		t.Errorf("a trace fits %d times, and not %d times", fits, apart)
	}
}

// P16 and P88: of right traces at most one fits a script on inputs, and that is its own one.
func TestOneRightTraceFits(t *testing.T) {
	fits, alone := 0, 0
	for _, k := range rolledTracings(161, 3000) {
		list := buildTraced(k.w, k.list).list
		checkTraces(t, list, true)
		for _, a := range askedOf(k.w) {
			own := traceOf(a.e.S, a.e.Ins...)
			for _, x := range list {
				checkFits(t, x, a.e.S, a.e.Ins, sameTrace(x, own))
			}
			if isTraced(list, own) {
				fits++
			} else {
				alone++
			}
		}
	}
	if fits < 5000 || alone < 300 {
		t.Errorf("a trace fits %d times, and none %d times", fits, alone)
	}
}

// P87: where something is no script, or texts are none, there is no trace, even if no line would be run, and nothing would be read.
func TestNoTraces(t *testing.T) {
	five := []string{"", "!", "a", bytesOf(40), "b"}
	for _, none := range notLines() {
		for _, s := range [][]impl.Line{script(none), script(linePut("a"), none), script(none, linePut("a")), script(lineFail(1), none), script(lineSkip(0, 1), none)} {
			checkNoTraceOf(t, s, five)
			checkNoTraceOf(t, s, nil)
		}
	}
	for in := range 5 {
		for _, x := range script(lineRead(in), lineSkip(in, 1), lineFail(in)) {
			checkNoTraceOf(t, script(x), five[:in])
			checkTraceOf(t, script(x), five[:in+1], traceOf(script(x), five[:in+1]...))
		}
	}
	for _, x := range script(linePut(""), lineTurn(), lineFail(1), lineSkip(0, 10)) {
		checkNoTraceOf(t, slices.Repeat(script(x), 11), five)
		checkNoTraceOf(t, slices.Repeat(script(x), 1000), five)
	}
	for _, s := range [][]impl.Line{nil, script(linePut("a")), script(lineRead(0)), script(lineFail(0), lineRead(1))} {
		for _, text := range longThings() {
			for at := 0; at <= 4; at++ {
				checkNoTraceOf(t, s, with([]string{"!", "a", "", bytesOf(40)}, at, text))
			}
		}
		for _, many := range []int{6, 7, 1000} {
			checkNoTraceOf(t, s, make([]string, many))
			checkNoTraceOf(t, s, slices.Repeat([]string{"!"}, many))
		}
	}
}

// tracesNotRight are ones with which one thing is wrong; where something else than what they made is, a run would make nothing.
func tracesNotRight() []impl.Trace {
	long, over := bytesOf(40), bytesOf(41)
	read, both, put, pick := script(lineRead(0)), script(lineRead(1), lineRead(0)), script(linePut("x")), script(lineSkip(0, 1), lineRead(1), linePut("y"))
	list := traces(
		// A script for more inputs than there are.
		trace(notMade(), read, 0), trace(notMade(), script(lineFail(0)), 0), trace(notMade(), script(lineSkip(0, 1)), 0), trace(notMade(), script(lineRead(1)), 1), trace(notMade(), script(lineRead(4)), 4), trace(notMade(), script(lineRead(5)), 5),
		trace(madeOf("a"), read, 0, saw(0, "a")), trace(madeOf("b"), script(lineRead(1)), 1, saw(1, "b")), trace(madeOf("y"), pick, 1, saw(0, "")), trace(madeOf("xy"), pick, 1, saw(0, "b"), saw(1, "x")),
		// Too many lines.
		trace(notMade(), slices.Repeat(script(lineTurn()), 11), 0), trace(madeOf(""), slices.Repeat(script(lineTurn()), 11), 0), trace(notMade(), slices.Repeat(read, 11), 1), trace(madeOf(""), slices.Repeat(read, 11), 1, saw(0, "")),
		// Fewer inputs than none, and too many.
		trace(notMade(), nil, -1), trace(madeOf(""), nil, -1), trace(madeOf("x"), put, -1), trace(notMade(), put, math.MinInt), trace(madeOf("x"), put, math.MinInt), trace(notMade(), read, -1), trace(madeOf("a"), read, -1, saw(0, "a")),
		trace(notMade(), nil, 6), trace(madeOf(""), nil, 6), trace(madeOf("x"), put, 6), trace(notMade(), put, 7), trace(madeOf("x"), put, math.MaxInt), trace(notMade(), put, math.MaxInt), trace(madeOf("a"), read, 6, saw(0, "a")), trace(madeOf("a"), read, math.MaxInt, saw(0, "a")), trace(notMade(), read, 1000),
		// An input that is not there, alone and behind one that is.
		trace(madeOf("x"), put, 0, saw(0, "")), trace(madeOf("x"), put, 0, saw(-1, "")), trace(madeOf("a"), read, 1, saw(1, "a")), trace(madeOf(""), read, 1, saw(1, "")), trace(madeOf("a"), read, 1, saw(-1, "a")), trace(madeOf("a"), read, 1, saw(math.MaxInt, "a")), trace(madeOf("a"), read, 1, saw(math.MinInt, "a")),
		trace(madeOf("a"), read, 1, saw(0, "a"), saw(1, "")), trace(madeOf("a"), read, 1, saw(0, "a"), saw(-1, "")), trace(madeOf("a"), read, 1, saw(5, "b"), saw(0, "a")), trace(madeOf("e"), script(lineRead(4)), 5, saw(5, "e")), trace(notMade(), read, 1, saw(7, "a")),
		// An input twice, with the same text and with others.
		trace(madeOf("a"), read, 1, saw(0, "a"), saw(0, "a")), trace(madeOf("a"), read, 1, saw(0, "b"), saw(0, "a")), trace(madeOf("a"), read, 1, saw(0, "a"), saw(0, "b")), trace(madeOf("aa"), script(lineRead(0), lineRead(0)), 1, saw(0, "a"), saw(0, "a")), trace(madeOf(""), read, 1, saw(0, ""), saw(0, "")),
		trace(madeOf("ba"), both, 2, saw(1, "b"), saw(0, "a"), saw(1, "b")), trace(madeOf("ba"), both, 2, saw(1, "b"), saw(1, "b"), saw(0, "a")),
		// Another order than that in which they were read first.
		trace(madeOf("ba"), both, 2, saw(0, "a"), saw(1, "b")), trace(madeOf("aa"), both, 2, saw(0, "a"), saw(1, "a")), trace(madeOf("xy"), pick, 2, saw(1, "x"), saw(0, "b")), trace(madeOf("aba"), script(lineRead(0), lineRead(1), lineRead(0)), 2, saw(1, "b"), saw(0, "a")),
		// Less than was read, also of empty inputs, by which the same is made.
		trace(madeOf("a"), read, 1), trace(madeOf(""), read, 1), trace(madeOf(""), script(lineFail(0)), 1), trace(madeOf(""), script(lineSkip(0, 1)), 1), trace(madeOf("y"), pick, 2), trace(madeOf("y"), pick, 2, saw(0, "b")), trace(madeOf("xy"), pick, 2, saw(1, "x")), trace(madeOf("b"), both, 2, saw(1, "b")), trace(madeOf("a"), both, 2, saw(0, "a")), trace(notMade(), script(lineFail(0)), 1), trace(notMade(), script(lineRead(1), lineFail(0)), 2, saw(0, "!")),
		// More than was read.
		trace(madeOf("x"), put, 1, saw(0, "a")), trace(madeOf("x"), put, 1, saw(0, "")), trace(madeOf(""), nil, 2, saw(1, "")), trace(madeOf("a"), read, 2, saw(0, "a"), saw(1, "b")), trace(madeOf("a"), read, 2, saw(1, ""), saw(0, "a")), trace(madeOf("y"), pick, 2, saw(0, ""), saw(1, "x")), trace(madeOf("y"), pick, 2, saw(0, ""), saw(1, "")),
		trace(notMade(), script(lineFail(0), lineRead(1)), 2, saw(0, "!"), saw(1, "b")), trace(notMade(), script(lineRead(0), linePut("z"), lineRead(1)), 2, saw(0, long), saw(1, "b")),
		// Another input than that which was read.
		trace(madeOf("a"), read, 2, saw(1, "a")), trace(madeOf("b"), script(lineRead(1)), 2, saw(0, "b")), trace(madeOf(""), read, 2, saw(1, "")),
		// Something else than what the script makes: made and not, another text, a longer and a shorter one, and none.
		trace(notMade(), nil, 0), trace(madeOf("a"), nil, 0), trace(madeOf(""), put, 0), trace(notMade(), put, 0), trace(madeOf("xx"), put, 0), trace(madeOf("X"), put, 0), trace(impl.Made{Text: "x"}, put, 0), trace(notMade(), put, 1),
		trace(madeOf("b"), read, 1, saw(0, "a")), trace(madeOf(""), read, 1, saw(0, "a")), trace(notMade(), read, 1, saw(0, "a")), trace(impl.Made{Text: "a"}, read, 1, saw(0, "a")), trace(madeOf("ab"), both, 2, saw(1, "b"), saw(0, "a")), trace(madeOf("x"), pick, 2, saw(0, "b"), saw(1, "x")),
		trace(madeOf(""), script(lineFail(0)), 1, saw(0, "!")), trace(madeOf("!"), script(lineRead(0), lineFail(0)), 1, saw(0, "!")), trace(impl.Made{Text: "!"}, script(lineRead(0), lineFail(0)), 1, saw(0, "!")), trace(notMade(), script(lineFail(0)), 1, saw(0, "x!")), trace(notMade(), script(lineFail(0)), 1, saw(0, "")),
		trace(madeOf(long), script(lineRead(0), linePut("z")), 1, saw(0, long)), trace(madeOf(long+"z"), script(lineRead(0), linePut("z")), 1, saw(0, long)), trace(madeOf(""), script(lineRead(0), lineRead(0)), 1, saw(0, long)),
		// A text that is too long, whatever would be made of it.
		trace(notMade(), read, 1, saw(0, over)), trace(madeOf(over), read, 1, saw(0, over)), trace(madeOf(""), script(lineFail(0)), 1, saw(0, over)), trace(notMade(), script(lineSkip(0, 1)), 1, saw(0, over)), trace(madeOf(""), script(lineSkip(0, 1)), 1, saw(0, over)), trace(notMade(), script(lineFail(0)), 1, saw(0, "!"+long)), trace(madeOf("a"), script(lineSkip(1, 1), lineRead(0)), 2, saw(1, over), saw(0, "a")),
		trace(notMade(), put, 1, saw(0, over)), trace(madeOf("x"), put, 1, saw(0, over)),
	)
	for _, x := range notLines() {
		list = append(list, trace(notMade(), script(x), 0), trace(notMade(), script(x), 5), trace(madeOf("a"), script(linePut("a"), x), 1), trace(notMade(), script(linePut("a"), x), 1), trace(notMade(), script(lineFail(0), x), 1, saw(0, "!")))
	}
	for _, text := range longThings() {
		list = append(list, trace(notMade(), read, 1, saw(0, text)), trace(madeOf(text), read, 1, saw(0, text)), trace(madeOf(""), script(lineSkip(4, 10)), 5, saw(4, text)))
	}
	return list
}

// rightTraces are ones at the bounds of what they can be, no two the same.
func rightTraces() []impl.Trace {
	var list []impl.Trace
	for _, k := range knownTraces() {
		list = append(list, k.x)
	}
	return list
}

// P88: no traces are right, and each right trace alone, and all together; the trace of each script is right, and none with another number of inputs, unless the script is one for as many, nor one that made something else.
func TestRightTraces(t *testing.T) {
	checkTraces(t, nil, true)
	checkTraces(t, traces(), true)
	checkTraces(t, rightTraces(), true)
	list := rightTraces()
	for _, r := range append(smallRooms()[:4000], rolledRooms(88, 3000)...) {
		list = append(list, traceOf(r.s, r.ins...))
	}
	for _, x := range list {
		checkTraces(t, traces(x), true)
		for _, m := range mades(notMade(), impl.Made{Text: "a"}, impl.Made{Text: x.M.Text}, madeOf(x.M.Text+"a"), madeOf(""), madeOf("a"), madeOf(x.M.Text)) {
			checkTraces(t, traces(trace(m, x.S, x.Many, x.Reads...)), m == x.M)
		}
		least := 0
		for _, line := range x.S {
			if mustRead(line) {
				least = max(least, line.A+1)
			}
		}
		for _, many := range []int{-1, 0, 1, 2, 3, 4, 5, 6, 7, math.MinInt, math.MaxInt} {
			checkTraces(t, traces(trace(x.M, x.S, many, x.Reads...)), least <= many && many <= 5)
		}
	}
}

// P88: a trace with one that it read less, more, or in another place is not right.
func TestOtherReadsAreNotRight(t *testing.T) {
	less, more, turned := 0, 0, 0
	for _, r := range append(roomsToRead()[:20000], rolledRooms(880, 4000)...) {
		x := traceOf(r.s, r.ins...)
		for place, seen := range x.Reads {
			checkTraces(t, traces(trace(x.M, x.S, x.Many, without(x.Reads, place)...)), false)
			less++
			for at := 0; at <= len(x.Reads); at++ {
				checkTraces(t, traces(trace(x.M, x.S, x.Many, with(x.Reads, at, seen)...)), false)
			}
			for at := range x.Reads {
				if at != place {
					checkTraces(t, traces(trace(x.M, x.S, x.Many, with(without(x.Reads, place), at, seen)...)), false)
					turned++
				}
			}
		}
		for _, in := range unread(r, run(roomOf(r.s, r.ins...))) {
			for _, text := range []string{"", r.ins[in], "!", bytesOf(41)} {
				checkTraces(t, traces(trace(x.M, x.S, x.Many, with(x.Reads, len(x.Reads), saw(in, text))...)), false)
				checkTraces(t, traces(trace(x.M, x.S, x.Many, with(x.Reads, 0, saw(in, text))...)), false)
				more++
			}
		}
		for _, in := range []int{-1, x.Many, 5, 6, math.MinInt, math.MaxInt} {
			checkTraces(t, traces(trace(x.M, x.S, x.Many, with(x.Reads, len(x.Reads), saw(in, ""))...)), false)
		}
	}
	if min(less, more, turned) < 3000 {
		t.Errorf("one less is read %d times, one more %d times, and one in another place %d times", less, more, turned)
	}
}

// P88: without the last one, and the first ones, traces are right; with any one of them twice, wherever that stands, they are not.
func TestTracesLessAndTwice(t *testing.T) {
	twice := 0
	for _, k := range rolledTracings(881, 1000) {
		list := buildTraced(k.w, k.list).list
		checkTraces(t, list, true)
		for many := range list {
			checkTraces(t, list[:many], true)
			checkTraces(t, list[many:], true)
		}
		if len(list) > 20 {
			continue
		}
		for _, x := range list {
			for at := 0; at <= len(list); at++ {
				checkTraces(t, with(list, at, x), false)
				twice++
			}
		}
	}
	if twice < 10000 {
		t.Errorf("something is there twice %d times only", twice)
	}
	for _, x := range rightTraces() {
		checkTraces(t, traces(x, x), false)
		checkTraces(t, append(append(traces(x), fillerTraces(58)...), x), false)
		checkTraces(t, append(append(fillerTraces(29), x, x), fillerTraces(58)[29:]...), false)
	}
}

// P88: of traces that are alike those are right together that are not the same.
func TestTracesAlike(t *testing.T) {
	var asked []impl.Entry
	for _, e := range lookups() {
		if impl.ScriptOk(e.S, len(e.Ins)) {
			asked = append(asked, e)
		}
	}
	same, apart := 0, 0
	for _, e := range asked {
		x := traceOf(e.S, e.Ins...)
		for _, other := range asked {
			y := traceOf(other.S, other.Ins...)
			checkTraces(t, traces(x, y), !sameTrace(x, y))
			if sameTrace(x, y) {
				same++
			} else {
				apart++
			}
		}
	}
	list := tracesOf(asked)
	for from := range list {
		checkTraces(t, list[from:min(from+60, len(list))], true)
	}
	if same <= len(asked) || apart < 10000 || len(list) < 100 {
		t.Errorf("so many of %d traces are the same: %d, and not: %d", len(asked), same, apart)
	}
}

// P88: as many traces as there can be are right, and one more is too many, whatever it is.
func TestLengthsOfTraces(t *testing.T) {
	for many := 0; many <= 60; many++ {
		checkTraces(t, fillerTraces(many), true)
	}
	for _, many := range []int{61, 62, 120, 1000} {
		checkTraces(t, fillerTraces(many), false)
	}
	for _, x := range rightTraces() {
		checkTraces(t, append(fillerTraces(59), x), true)
		checkTraces(t, append(fillerTraces(60), x), false)
		checkTraces(t, append(traces(x), fillerTraces(60)...), false)
	}
}

// P88: a trace that is not right makes all not right, alone and wherever it stands.
func TestTracesNotRight(t *testing.T) {
	for _, none := range tracesNotRight() {
		checkTraces(t, traces(none), false)
		for _, list := range [][]impl.Trace{rightTraces()[1:], fillerTraces(3), fillerTraces(59)} {
			for _, at := range []int{0, 1, len(list) / 2, len(list)} {
				checkTraces(t, with(list, at, none), false)
			}
		}
	}
}

// P88: traces are right just if that is told of them in another way.
func TestTracesRightAsTold(t *testing.T) {
	d := &dice{state: 882}
	right, wrong := 0, 0
	for range 20000 {
		var list []impl.Trace
		for range d.roll(4) {
			e := rolledEntry(d)
			list = append(list, traceOf(e.S, e.Ins...))
		}
		if len(list) > 0 && d.roll(2) == 0 {
			list = append(list, traceChanged(d, list[d.roll(len(list))]))
		}
		list = shuffled(d, append(list, fillerTraces(d.roll(3)*(28+d.roll(3)))...))
		must := mustBeRightTraces(list)
		checkTraces(t, list, must)
		if must {
			right++
		} else {
			wrong++
		}
	}
	if min(right, wrong) < 3000 {
		t.Errorf("traces are right %d times, and not %d times", right, wrong)
	}
}

// traceChanged is a trace that differs at random from another one in at most one thing.
func traceChanged(d *dice, x impl.Trace) impl.Trace {
	reads := slices.Clone(x.Reads)
	switch d.roll(8) {
	case 0:
		return trace(impl.Made{Ok: !x.M.Ok, Text: x.M.Text}, x.S, x.Many, reads...)
	case 1:
		return trace(impl.Made{Ok: x.M.Ok, Text: x.M.Text + "x"}, x.S, x.Many, reads...)
	case 2:
		return trace(x.M, append(slices.Clone(x.S), lineTurn(), lineTurn()), x.Many, reads...)
	case 3:
		return trace(x.M, x.S, d.roll(8)-1, reads...)
	case 4:
		return trace(x.M, x.S, x.Many, with(reads, d.roll(len(reads)+1), saw(d.roll(7)-1, rolledThing(d)))...)
	case 5:
		return trace(x.M, x.S, x.Many, shuffled(d, reads)...)
	case 6:
		return trace(x.M, x.S, x.Many, someOf(d, reads, 8)...)
	}
	if len(reads) > 0 {
		reads[d.roll(len(reads))] = saw(d.roll(6), rolledThing(d))
	}
	return trace(x.M, x.S, x.Many, reads...)
}

// knownTracing is a world and traces, of which was found by hand what its targets come to, which traces are kept behind these, and what is run.
type knownTracing struct {
	tracing
	made []impl.Made
	put  []impl.Trace
	ran  []int
}

func knownBy(w []impl.Target, list []impl.Trace, made []impl.Made, put []impl.Trace, ran ...int) knownTracing {
	return knownTracing{tracing{w, list}, made, put, ran}
}

// knownTracings are worlds and traces at the edges that the document names.
func knownTracings() []knownTracing {
	a, b, c, mark, empty := sourceOf("a"), sourceOf("b"), sourceOf("c"), sourceOf("!"), sourceOf("")
	read, turn, both, second := script(lineRead(0)), script(lineRead(0), lineTurn()), script(lineRead(0), lineRead(1)), script(lineRead(1))
	fail, put, twice, pick := script(lineFail(0)), script(linePut("x")), script(lineRead(0), lineRead(0)), script(lineSkip(0, 1), lineRead(1), linePut("y"))
	readA, turnA, failMark, putX := trace(madeOf("a"), read, 1, saw(0, "a")), trace(madeOf("a"), turn, 1, saw(0, "a")), trace(notMade(), fail, 1, saw(0, "!")), trace(madeOf("x"), put, 1)
	secondB := trace(madeOf("b"), second, 2, saw(1, "b"))
	pickEmpty, pickA := trace(madeOf("y"), pick, 2, saw(0, "")), trace(madeOf("by"), pick, 2, saw(0, "a"), saw(1, "b"))
	aa, ab, ax := mades(madeOf("a"), madeOf("a")), mades(madeOf("a"), madeOf("b")), mades(madeOf("a"), madeOf("x"))
	aaa := mades(madeOf("a"), madeOf("a"), madeOf("a"))
	failed := mades(madeOf("!"), notMade(), notMade())
	long := bytesOf(40)
	return []knownTracing{
		// No traces, no targets, and sources alone; no source takes what a step without lines and inputs made.
		knownBy(nil, nil, nil, nil),
		knownBy(world(), traces(), nil, nil),
		knownBy(nil, traces(readA, failMark), nil, nil),
		knownBy(nil, fillerTraces(60), nil, nil),
		knownBy(world(a, mark), nil, mades(madeOf("a"), madeOf("!")), nil),
		knownBy(world(a, b), traces(trace(madeOf(""), nil, 0), readA), ab, nil),
		knownBy(world(a), fillerTraces(60), mades(madeOf("a")), nil),
		// A step whose trace is not kept is run, and its trace is kept behind all others; one whose trace is kept is not run.
		knownBy(world(a, stepOf(on(0), read...)), nil, aa, traces(readA), 1),
		knownBy(world(a, stepOf(on(0), read...)), traces(readA), aa, nil),
		knownBy(world(a, stepOf(on(0), read...)), traces(putX, failMark), aa, traces(readA), 1),
		knownBy(world(a, stepOf(on(0), read...)), traces(putX, readA, failMark), aa, nil),
		knownBy(world(a, stepOf(on(0), read...), stepOf(on(0), turn...)), traces(turnA), aaa, traces(readA), 1),
		knownBy(world(a, stepOf(on(0), turn...), stepOf(on(0), read...)), nil, aaa, traces(turnA, readA), 1, 2),
		knownBy(world(a, stepOf(on(0), turn...), b, stepOf(on(0), read...)), traces(turnA), mades(madeOf("a"), madeOf("a"), madeOf("b"), madeOf("a")), traces(readA), 3),
		// Steps without inputs, without lines, and without both: nothing is read.
		knownBy(world(stepOf(nil, put...)), nil, mades(madeOf("x")), traces(trace(madeOf("x"), put, 0)), 0),
		knownBy(world(stepOf(nil, put...)), traces(trace(madeOf("x"), put, 0)), mades(madeOf("x")), nil),
		knownBy(world(a, stepOf(on(0))), nil, mades(madeOf("a"), madeOf("")), traces(trace(madeOf(""), nil, 1)), 1),
		knownBy(world(b, stepOf(on(0))), traces(trace(madeOf(""), nil, 1)), mades(madeOf("b"), madeOf("")), nil),
		knownBy(world(stepOf(nil)), nil, mades(madeOf("")), traces(trace(madeOf(""), nil, 0)), 0),
		knownBy(world(stepOf(on())), traces(trace(madeOf(""), script(), 0, []impl.Seen{}...)), mades(madeOf("")), nil),
		// Steps that read nothing: on whatever inputs they are found, and on none whose number is another one.
		knownBy(world(a, stepOf(on(0), put...)), nil, ax, traces(putX), 1),
		knownBy(world(a, stepOf(on(0), put...)), traces(putX), ax, nil),
		knownBy(world(sourceOf(long), stepOf(on(0), put...)), traces(putX), mades(madeOf(long), madeOf("x")), nil),
		knownBy(world(a, b, stepOf(on(0), put...), stepOf(on(1), put...), stepOf(on(2), put...)), nil, mades(madeOf("a"), madeOf("b"), madeOf("x"), madeOf("x"), madeOf("x")), traces(putX), 2),
		knownBy(world(a, stepOf(on(0), put...)), traces(trace(madeOf("x"), put, 0), trace(madeOf("x"), put, 2)), ax, traces(putX), 1),
		knownBy(world(a, stepOf(on(0))), traces(trace(madeOf(""), nil, 0)), mades(madeOf("a"), madeOf("")), traces(trace(madeOf(""), nil, 1)), 1),
		knownBy(world(stepOf(nil)), traces(trace(madeOf(""), nil, 1), trace(madeOf(""), nil, 5)), mades(madeOf("")), traces(trace(madeOf(""), nil, 0)), 0),
		knownBy(world(a, stepOf(nil, put...), stepOf(on(0), put...), stepOf(on(0, 1), put...)), nil, mades(madeOf("a"), madeOf("x"), madeOf("x"), madeOf("x")), traces(trace(madeOf("x"), put, 0), putX, trace(madeOf("x"), put, 2)), 1, 2, 3),
		// An input that was not read does not count; one that was does, and where it is read by hap it counts by hap.
		knownBy(world(a, b, stepOf(on(0, 1), second...)), nil, mades(madeOf("a"), madeOf("b"), madeOf("b")), traces(secondB), 2),
		knownBy(world(c, b, stepOf(on(0, 1), second...)), traces(secondB), mades(madeOf("c"), madeOf("b"), madeOf("b")), nil),
		knownBy(world(a, c, stepOf(on(0, 1), second...)), traces(secondB), mades(madeOf("a"), madeOf("c"), madeOf("c")), traces(trace(madeOf("c"), second, 2, saw(1, "c"))), 2),
		knownBy(world(empty, b, stepOf(on(0, 1), pick...)), nil, mades(madeOf(""), madeOf("b"), madeOf("y")), traces(pickEmpty), 2),
		knownBy(world(empty, c, stepOf(on(0, 1), pick...)), traces(pickA, pickEmpty), mades(madeOf(""), madeOf("c"), madeOf("y")), nil),
		knownBy(world(a, b, stepOf(on(0, 1), pick...)), traces(pickEmpty), mades(madeOf("a"), madeOf("b"), madeOf("by")), traces(pickA), 2),
		knownBy(world(a, b, stepOf(on(0, 1), pick...)), traces(pickEmpty, pickA), mades(madeOf("a"), madeOf("b"), madeOf("by")), nil),
		knownBy(world(a, c, stepOf(on(0, 1), pick...)), traces(pickEmpty, pickA), mades(madeOf("a"), madeOf("c"), madeOf("cy")), traces(trace(madeOf("cy"), pick, 2, saw(0, "a"), saw(1, "c"))), 2),
		// What was read of an input does not show in what was made, and counts.
		knownBy(world(b, stepOf(on(0), lineRead(0), lineKeep(0))), traces(trace(madeOf(""), script(lineRead(0), lineKeep(0)), 1, saw(0, "a"))), mades(madeOf("b"), madeOf("")), traces(trace(madeOf(""), script(lineRead(0), lineKeep(0)), 1, saw(0, "b"))), 1),
		knownBy(world(b, stepOf(on(0), fail...)), traces(trace(madeOf(""), fail, 1, saw(0, "a"))), mades(madeOf("b"), madeOf("")), traces(trace(madeOf(""), fail, 1, saw(0, "b"))), 1),
		// A step that reads an input twice.
		knownBy(world(a, stepOf(on(0), twice...)), nil, mades(madeOf("a"), madeOf("aa")), traces(trace(madeOf("aa"), twice, 1, saw(0, "a"))), 1),
		knownBy(world(a, stepOf(on(0), twice...)), traces(trace(madeOf("aa"), twice, 1, saw(0, "a"))), mades(madeOf("a"), madeOf("aa")), nil),
		// A step that failed, or made too much, is kept so, and is not run again, whatever stands at what it did not come to.
		knownBy(world(mark, stepOf(on(0), fail...)), nil, failed[:2], traces(failMark), 1),
		knownBy(world(mark, stepOf(on(0), fail...)), traces(failMark), failed[:2], nil),
		knownBy(world(mark, b, stepOf(on(0, 1), lineFail(0), lineRead(1))), traces(trace(notMade(), script(lineFail(0), lineRead(1)), 2, saw(0, "!"))), mades(madeOf("!"), madeOf("b"), notMade()), nil),
		knownBy(world(a, b, stepOf(on(0, 1), lineFail(0), lineRead(1))), traces(trace(notMade(), script(lineFail(0), lineRead(1)), 2, saw(0, "!"))), mades(madeOf("a"), madeOf("b"), madeOf("b")), traces(trace(madeOf("b"), script(lineFail(0), lineRead(1)), 2, saw(0, "a"), saw(1, "b"))), 2),
		knownBy(world(sourceOf(long), stepOf(on(0), lineRead(0), linePut("z"))), nil, mades(madeOf(long), notMade()), traces(trace(notMade(), script(lineRead(0), linePut("z")), 1, saw(0, long))), 1),
		knownBy(world(sourceOf(long), c, stepOf(on(0, 1), lineRead(0), linePut("z"), lineRead(1))), traces(trace(notMade(), script(lineRead(0), linePut("z"), lineRead(1)), 2, saw(0, long))), mades(madeOf(long), madeOf("c"), notMade()), nil),
		// A step whose input was not made is neither run nor kept, whatever is kept, also if it reads nothing, or nothing of that.
		knownBy(world(mark, stepOf(on(0), fail...), stepOf(on(1), read...)), nil, failed, traces(failMark), 1),
		knownBy(world(mark, stepOf(on(0), fail...), stepOf(on(1), read...)), traces(failMark, trace(madeOf(""), read, 1, saw(0, ""))), failed, nil),
		knownBy(world(mark, stepOf(on(0), fail...), stepOf(on(1), put...)), traces(putX, trace(madeOf("x"), put, 0)), failed, traces(failMark), 1),
		knownBy(world(mark, stepOf(on(0), fail...), stepOf(on(0, 1), put...)), traces(failMark, trace(madeOf("x"), put, 2)), failed, nil),
		knownBy(world(mark, stepOf(on(0), fail...), stepOf(on(0, 1), read...)), traces(failMark, trace(madeOf("!"), read, 2, saw(0, "!")), trace(madeOf("!"), read, 1, saw(0, "!"))), failed, nil),
		knownBy(world(mark, stepOf(on(0), fail...), stepOf(on(1), fail...)), traces(failMark), failed, nil),
		knownBy(world(mark, stepOf(on(0), fail...), stepOf(on(1)), stepOf(on(2))), nil, append(mades(madeOf("!")), notMade(), notMade(), notMade()), traces(failMark), 1),
		// What was made empty was made.
		knownBy(world(a, stepOf(on(0)), stepOf(on(1), read...)), traces(trace(madeOf(""), read, 1, saw(0, ""))), mades(madeOf("a"), madeOf(""), madeOf("")), traces(trace(madeOf(""), nil, 1)), 1),
		// Two steps with the same script that read the same: of one input, of two sources, with others that they do not read, and ones that fail.
		knownBy(world(a, stepOf(on(0), read...), stepOf(on(0), read...)), nil, aaa, traces(readA), 1),
		knownBy(world(a, a, stepOf(on(0), read...), stepOf(on(1), read...)), nil, slices.Repeat(mades(madeOf("a")), 4), traces(readA), 2),
		knownBy(world(a, stepOf(on(0), read...), stepOf(on(1), read...)), nil, aaa, traces(readA), 1),
		knownBy(world(a, b, c, stepOf(on(0, 1), second...), stepOf(on(1, 2), read...), stepOf(on(1, 2), second...), stepOf(on(2, 3), second...), stepOf(on(0, 3), second...)), nil, mades(madeOf("a"), madeOf("b"), madeOf("c"), madeOf("b"), madeOf("b"), madeOf("c"), madeOf("b"), madeOf("b")), traces(secondB, trace(madeOf("b"), read, 2, saw(0, "b")), trace(madeOf("c"), second, 2, saw(1, "c"))), 3, 4, 5),
		knownBy(world(empty, b, c, stepOf(on(0, 1), pick...), stepOf(on(0, 2), pick...)), nil, mades(madeOf(""), madeOf("b"), madeOf("c"), madeOf("y"), madeOf("y")), traces(pickEmpty), 3),
		knownBy(world(mark, stepOf(on(0), fail...), stepOf(on(0), fail...)), nil, failed, traces(failMark), 1),
		knownBy(slices.Repeat(world(stepOf(nil, put...)), 12), nil, slices.Repeat(mades(madeOf("x")), 12), traces(trace(madeOf("x"), put, 0)), 0),
		knownBy(slices.Repeat(world(stepOf(nil, put...)), 12), traces(readA, trace(madeOf("x"), put, 0)), slices.Repeat(mades(madeOf("x")), 12), nil),
		// The same texts at other inputs: of an input that was read and one that was not, of two that were, and at other targets of the world.
		knownBy(world(b, a, stepOf(on(0, 1), second...)), traces(secondB), mades(madeOf("b"), madeOf("a"), madeOf("a")), traces(trace(madeOf("a"), second, 2, saw(1, "a"))), 2),
		knownBy(world(b, a, stepOf(on(0, 1), both...)), traces(trace(madeOf("ab"), both, 2, saw(0, "a"), saw(1, "b"))), mades(madeOf("b"), madeOf("a"), madeOf("ba")), traces(trace(madeOf("ba"), both, 2, saw(0, "b"), saw(1, "a"))), 2),
		knownBy(world(sourceOf("ab"), empty, stepOf(on(0, 1), both...)), traces(trace(madeOf("ab"), both, 2, saw(0, "a"), saw(1, "b"))), mades(madeOf("ab"), madeOf(""), madeOf("ab")), traces(trace(madeOf("ab"), both, 2, saw(0, "ab"), saw(1, ""))), 2),
		knownBy(world(c, a, stepOf(on(1), read...)), traces(readA), mades(madeOf("c"), madeOf("a"), madeOf("a")), nil),
		knownBy(world(a, c, stepOf(on(0), read...), stepOf(on(1), read...)), traces(readA), mades(madeOf("a"), madeOf("c"), madeOf("a"), madeOf("c")), traces(trace(madeOf("c"), read, 1, saw(0, "c"))), 3),
		// A trace for another number of inputs, which read the same.
		knownBy(world(a, stepOf(on(0), read...)), traces(trace(madeOf("a"), read, 2, saw(0, "a"))), aa, traces(readA), 1),
		knownBy(world(a, b, stepOf(on(0, 1), read...)), traces(readA, trace(madeOf("a"), read, 3, saw(0, "a"))), mades(madeOf("a"), madeOf("b"), madeOf("a")), traces(trace(madeOf("a"), read, 2, saw(0, "a"))), 2),
		knownBy(world(a, b, stepOf(on(0, 1), read...)), traces(trace(madeOf("a"), read, 2, saw(0, "a"))), mades(madeOf("a"), madeOf("b"), madeOf("a")), nil),
		// A trace of another script that read the same, one that makes the same among them.
		knownBy(world(a, stepOf(on(0), read...)), traces(turnA), aa, traces(readA), 1),
		knownBy(world(a, stepOf(on(0), read...)), traces(trace(madeOf("a"), script(lineRead(0), linePut("")), 1, saw(0, "a")), trace(madeOf(""), fail, 1, saw(0, "a"))), aa, traces(readA), 1),
		knownBy(world(a, stepOf(on(0), linePut("x"), lineKeep(1))), traces(putX), ax, traces(trace(madeOf("x"), script(linePut("x"), lineKeep(1)), 1)), 1),
		// An input changes and what is made of it does not: what is behind it is found.
		knownBy(world(sourceOf("ac"), stepOf(on(0), lineRead(0), lineKeep(1)), stepOf(on(1), read...)), traces(trace(madeOf("a"), script(lineRead(0), lineKeep(1)), 1, saw(0, "ab")), readA), mades(madeOf("ac"), madeOf("a"), madeOf("a")), traces(trace(madeOf("a"), script(lineRead(0), lineKeep(1)), 1, saw(0, "ac"))), 1),
		// No room for one more: a step is run and its trace is not kept, and is run again where it is asked for again; what is kept is found.
		knownBy(world(a, stepOf(on(0), read...)), fillerTraces(60), aa, nil, 1),
		knownBy(world(a, stepOf(on(0), read...), stepOf(on(0), read...)), fillerTraces(60), aaa, nil, 1, 2),
		knownBy(world(a, stepOf(on(0), put...), stepOf(on(1), put...)), fillerTraces(60), mades(madeOf("a"), madeOf("x"), madeOf("x")), nil, 1, 2),
		knownBy(world(a, stepOf(on(0), read...)), fillerTraces(59), aa, traces(readA), 1),
		knownBy(world(a, stepOf(on(0), read...), stepOf(on(0), read...)), fillerTraces(59), aaa, traces(readA), 1),
		knownBy(world(a, stepOf(on(0), read...), stepOf(on(0), turn...), stepOf(on(0), read...), stepOf(on(0), turn...)), fillerTraces(59), slices.Repeat(mades(madeOf("a")), 5), traces(readA), 1, 2, 4),
		knownBy(world(a, stepOf(on(0), read...), stepOf(on(0), turn...), stepOf(on(0), turn...)), fillerTraces(58), slices.Repeat(mades(madeOf("a")), 4), traces(readA, turnA), 1, 2),
		knownBy(world(a, stepOf(on(0), read...), stepOf(on(0), turn...)), append(fillerTraces(59), turnA), aaa, nil, 1),
		knownBy(world(a, stepOf(on(0), read...)), append(fillerTraces(59), readA), aa, nil),
		knownBy(world(a, stepOf(on(0), read...)), append(traces(readA), fillerTraces(59)...), aa, nil),
		knownBy(world(mark, stepOf(on(0), fail...), stepOf(on(0), fail...)), fillerTraces(60), failed, nil, 1, 2),
		// As long a chain as there can be, of which the trace of the first step is kept, or all but the last one.
		knownBy(chain(12), nil, chainMade(12), chainTraces(12), 1, 2, 3, 4, 5, 6, 7, 8, 9, 10, 11),
		knownBy(chain(12), chainTraces(2), chainMade(12), chainTraces(12)[1:], 2, 3, 4, 5, 6, 7, 8, 9, 10, 11),
		knownBy(chain(12), chainTraces(11), chainMade(12), chainTraces(12)[10:], 11),
		knownBy(chain(12), chainTraces(12)[1:], chainMade(12), chainTraces(2), 1),
	}
}

// chainTraces are those of all steps of a chain.
func chainTraces(many int) []impl.Trace {
	var list []impl.Trace
	made := chainMade(many)
	for at := 1; at < many; at++ {
		list = append(list, trace(made[at], script(lineRead(0), linePut("z")), 1, saw(0, made[at-1].Text)))
	}
	return list
}

// P17, P87 and P88: builds by traces that were told by hand.
func TestKnownTraceBuilds(t *testing.T) {
	for _, k := range knownTracings() {
		must := traceBuild{k.made, append(slices.Clone(k.list), k.put...), k.ran}
		checkTraces(t, k.list, true)
		checkTraceBuild(t, k.w, k.list, must)
		checkBuilt(t, k.w, k.made)
		if told := mustTrace(k.w, k.list); !sameTraces(told.list, must.list) || !slices.Equal(told.ran, must.ran) {
			t.Fatalf("it is told otherwise: %s\nand not %s", tracedText(told), tracedText(must))
		}
	}
}

// P17: builds by traces come to just what is told of them in another way, run just those steps and keep just what is told.
func TestTraceBuildsAreAsTold(t *testing.T) {
	ran, found, again, failed, nothing := 0, 0, 0, 0, 0
	for _, k := range append(tracings(), rolledTracings(170, 8000)...) {
		must := mustTrace(k.w, k.list)
		checkTraceBuild(t, k.w, k.list, must)
		all := tracedOf(k.w)
		ran += len(must.ran)
		found += len(all) - len(must.ran)
		again += len(must.ran) - len(untracedOf(all, k.list))
		for _, a := range all {
			if slices.Contains(must.ran, a.at) {
				continue
			}
			if !a.x.M.Ok {
				failed++
			}
			if len(a.x.Reads) == 0 && a.x.Many > 0 {
				nothing++
			}
		}
	}
	if min(ran, found, failed, nothing) < 2000 || again < 300 {
		t.Errorf("steps are run %d times, found %d times, run twice for want of room %d times, found to have failed %d times, and to have read nothing %d times", ran, found, again, failed, nothing)
	}
}

// P17: a build by traces comes to the same as one from nothing; the traces that are kept behind it are right and begin with those that were kept; that of each step that is run is kept, if there is room.
func TestTracesChangeNothing(t *testing.T) {
	open, full := 0, 0
	for _, k := range tracings() {
		b := buildTraced(k.w, k.list)
		checkBuilt(t, k.w, b.made)
		checkTraces(t, b.list, true)
		if len(b.list) < len(k.list) || !sameTraces(b.list[:len(k.list)], k.list) || len(b.list) > 60 {
			t.Fatalf("of%s\nis kept%s\nbehind%s", tracesText(k.list), tracesText(b.list), worldText(k.w))
		}
		if len(b.ran) < len(b.list)-len(k.list) || len(b.list) < 60 && len(b.ran) != len(b.list)-len(k.list) {
			t.Fatalf("%v are run, and kept is%s\nbehind%s\nof%s", b.ran, tracesText(b.list), tracesText(k.list), worldText(k.w))
		}
		switch {
		case len(b.list) == 60:
			full++
		case len(b.ran) > 0:
			open++
		}
	}
	if min(open, full) < 2000 {
		t.Errorf("steps are run where there is room left %d times, and there is none %d times", open, full)
	}
}

// P17: what is kept of one build after the other, until there is no room, is right all the time, and each build comes to the same as from nothing.
func TestManyTraceBuildsOneBehindTheOther(t *testing.T) {
	d := &dice{state: 172}
	full := 0
	for range 300 {
		var list []impl.Trace
		w := rolledWorld(d, 12)
		for range 20 {
			must := mustTrace(w, list)
			checkTraceBuild(t, w, list, must)
			checkBuilt(t, w, must.made)
			_, list, _ = impl.TraceBuild(w, list)
			checkTraces(t, list, true)
			w = changed(d, w)
			if d.roll(2) == 0 {
				w = rolledWorld(d, 12)
			}
		}
		if len(list) == 60 {
			full++
		}
	}
	if full < 50 {
		t.Errorf("there is no room any more %d times only", full)
	}
}

// P17: a second build runs nothing, if there was room for all that was run, and changes nothing of what is kept; and just then.
func TestSecondTraceBuildRunsNothing(t *testing.T) {
	room, none := 0, 0
	for _, k := range tracings() {
		b := buildTraced(k.w, k.list)
		second := buildTraced(k.w, b.list)
		if !slices.Equal(second.made, b.made) || !sameTraces(second.list, b.list) {
			t.Fatalf("a second build is %s\nand the first one %s\nof%s", tracedText(second), tracedText(b), worldText(k.w))
		}
		hasRoom := len(untracedOf(tracedOf(k.w), k.list)) <= 60-len(k.list)
		if (len(second.ran) == 0) != hasRoom {
			t.Fatalf("a second build runs %v, where there is room: %v, of%s\nby%s", second.ran, hasRoom, worldText(k.w), tracesText(k.list))
		}
		switch {
		case !hasRoom:
			none++
		case len(b.ran) > 0:
			room++
		}
	}
	if min(room, none) < 1000 {
		t.Errorf("there is room %d times, and not %d times", room, none)
	}
}

// P17: just as much room as there must be, and one less, of which the trace of the last step that is run is not kept.
func TestRoomForAllTraces(t *testing.T) {
	for many := 2; many <= 12; many++ {
		w, all := chain(many), chainTraces(many)
		for room := 0; room <= many; room++ {
			list := fillerTraces(60 - room)
			put := min(room, many-1)
			b := buildTraced(w, list)
			if !sameTraces(b.list, append(slices.Clone(list), all[:put]...)) || len(b.ran) != many-1 {
				t.Fatalf("with room for %d a chain of %d is %s", room, many, tracedText(b))
			}
			second := buildTraced(w, b.list)
			if len(second.ran) != many-1-put || len(second.ran) > 0 && second.ran[0] != put+1 {
				t.Fatalf("with room for %d a chain of %d runs %v again", room, many, second.ran)
			}
		}
	}
}

// P17: by the traces of one world another one comes to the same as from nothing.
func TestTracesOfOtherWorlds(t *testing.T) {
	d := &dice{state: 173}
	found := 0
	for _, k := range tracings() {
		b := buildTraced(k.w, k.list)
		other := otherUnneeded(d, k.w, someOf(d, placesTo(len(k.w)), 7))
		must := mustTrace(other, b.list)
		checkTraceBuild(t, other, b.list, must)
		checkBuilt(t, other, must.made)
		found += len(tracedOf(other)) - len(must.ran)
	}
	if found < 3000 {
		t.Errorf("something is found %d times only", found)
	}
}

// P17: in whichever order the traces are kept, a build comes to the same and runs the same.
func TestTracesInAnyOrder(t *testing.T) {
	d := &dice{state: 174}
	for _, k := range rolledTracings(175, 5000) {
		b, other := buildTraced(k.w, k.list), buildTraced(k.w, shuffled(d, k.list))
		many := len(k.list)
		if !slices.Equal(b.made, other.made) || !slices.Equal(b.ran, other.ran) || !sameTraces(b.list[many:], other.list[many:]) {
			t.Fatalf("in another order it is %s\nand not %s\nof%s", tracedText(other), tracedText(b), worldText(k.w))
		}
	}
}

// bothKept are what is kept by all inputs, and by what was read, of the same builds.
type bothKept struct {
	list  []impl.Entry
	known []impl.Trace
}

// nextBoth holds that a build by traces comes to what one with what is kept comes to, and runs no more, and returns what is kept behind both, and how many steps fewer are run.
func nextBoth(t *testing.T, w []impl.Target, x bothKept) (bothKept, int) {
	t.Helper()
	k, b := buildKept(w, x.list), buildTraced(w, x.known)
	if !slices.Equal(k.made, b.made) || len(b.made) != len(w) {
		t.Fatalf("by traces it comes to %v, and with what is kept to %v, in%s", b.made, k.made, worldText(w))
	}
	for _, at := range b.ran {
		if !slices.Contains(k.ran, at) {
			t.Fatalf("%v are run by%s\nand %v with%s\nin%s", b.ran, tracesText(x.known), k.ran, entriesText(x.list), worldText(w))
		}
	}
	return bothKept{k.list, b.list}, len(k.ran) - len(b.ran)
}

// P18: whatever sources change, once or again and again, each step that is run again by traces is run again with what is kept by all inputs, too.
func TestTracesRunNoMore(t *testing.T) {
	d := &dice{state: 18}
	fewer, same := 0, 0
	for _, w := range append(rolledWorlds(180, 8000), worldsToBuild()...) {
		x, _ := nextBoth(t, w, bothKept{})
		for range 2 {
			w = changed(d, w)
			behind, less := nextBoth(t, w, x)
			switch {
			case less > 0:
				fewer++
			case len(behind.list) > len(x.list):
				same++
			}
			x = behind
		}
	}
	if min(fewer, same) < 3000 {
		t.Errorf("fewer steps are run %d times, and as many %d times", fewer, same)
	}
}

// P18: it stays so where there is no room any more, as no more traces are kept than entries; and of whatever worlds.
func TestTracesRunNoMoreWithoutRoom(t *testing.T) {
	d := &dice{state: 181}
	fewer, full, none := 0, 0, 0
	for range 300 {
		w := rolledWorld(d, 12)
		x := bothKept{}
		for range 40 {
			behind, less := nextBoth(t, w, x)
			if len(behind.known) > len(behind.list) {
				t.Fatalf("so many traces are kept: %d, and entries: %d", len(behind.known), len(behind.list))
			}
			if len(x.list) == 60 {
				full++
				fewer += less
			}
			if len(x.known) == 60 {
				none++
			}
			x = behind
			w = changed(d, w)
			if d.roll(3) == 0 {
				w = doubled(d, rolledWorld(d, 8))
			}
		}
	}
	if min(fewer, full, none) < 1000 {
		t.Errorf("without room %d times fewer steps are run %d times, and there is none for traces, too, %d times", full, fewer, none)
	}
}

// P18: whatever was kept before, if there are the traces of all of it.
func TestTracesRunNoMoreOfWhatWasKept(t *testing.T) {
	d := &dice{state: 182}
	fewer := 0
	for _, k := range rolledKeepings(183, 8000) {
		x, less := nextBoth(t, k.w, bothKept{k.list, shuffled(d, tracesOf(k.list))})
		_, again := nextBoth(t, changed(d, k.w), x)
		fewer += less + again
	}
	if fewer < 3000 {
		t.Errorf("fewer steps are run %d times only", fewer)
	}
}

// P18: if only sources change, a step is run again by traces only if an input that it read came to another text, or one was not made before; and of these just those that read what no step before the change, and none before them, read with their script.
func TestOnlyWhatWasReadAndChangedIsRun(t *testing.T) {
	d := &dice{state: 184}
	ran, unmade, spared := 0, 0, 0
	for _, w := range append(rolledWorlds(185, 12000), worldsToBuild()...) {
		first := buildTraced(w, nil)
		v := changed(d, w)
		b := buildTraced(v, first.list)
		before := tracedOf(w)
		var must []int
		kept := slices.Clone(before)
		for _, a := range tracedOf(v) {
			if !slices.ContainsFunc(kept, func(x tracedStep) bool { return sameTrace(x.x, a.x) }) {
				must = append(must, a.at)
			}
			kept = append(kept, a)
			isRun := slices.Contains(must, a.at)
			was := slices.IndexFunc(before, func(x tracedStep) bool { return x.at == a.at })
			switch {
			case isRun && was < 0:
				unmade++
			case isRun:
				isStale := slices.ContainsFunc(before[was].x.Reads, func(r impl.Seen) bool { return b.made[v[a.at].Ins[r.In]] != madeOf(r.Text) })
				if !isStale {
					t.Fatalf("%d is run in%s\nbehind%s", a.at, worldText(v), worldText(w))
				}
				ran++
			case isStale(v[a.at], first.made, b.made):
				spared++
			}
		}
		if !slices.Equal(b.ran, must) {
			t.Fatalf("%v are run, not %v, in%s\nbehind%s", b.ran, must, worldText(v), worldText(w))
		}
	}
	if min(ran, spared) < 2000 || unmade < 500 {
		t.Errorf("steps are run for a change of what they read %d times, for what was not made before %d times, and spared though an input changed %d times", ran, unmade, spared)
	}
}

// P18: of a step with as many inputs as there can be, of which it reads some, it is run again by traces just if one of these changes, and with what is kept if any one does.
func TestChangesOfWhatIsNotRead(t *testing.T) {
	for _, reads := range rowsBefore(5) {
		var s []impl.Line
		for _, in := range reads {
			s = append(s, lineRead(in))
		}
		w := world(sourceOf("a"), sourceOf("b"), sourceOf("c"), sourceOf("d"), sourceOf("e"), stepOf(on(0, 1, 2, 3, 4), s...))
		x, _ := nextBoth(t, w, bothKept{})
		for _, places := range rowsBefore(5) {
			v := slices.Clone(w)
			var ran []int
			for _, at := range places {
				v[at] = sourceOf("other")
				if slices.Contains(reads, at) {
					ran = on(5)
				}
			}
			checkTracedAgain(t, v, x.known, ran...)
			if len(places) == 0 {
				checkRunAgain(t, v, x.list)
			} else {
				checkRunAgain(t, v, x.list, 5)
			}
		}
	}
}

// P18: what stands behind a step that does not read what changed is not run either, however long the chain, where with what is kept that step is; and a step that reads nothing is never run again.
func TestChainBehindWhatIsNotRead(t *testing.T) {
	for many := 3; many <= 11; many++ {
		for cut := 1; cut < many; cut++ {
			w := append(chain(many), sourceOf("more"))
			w[cut] = stepOf(on(cut-1), linePut("x"))
			x, _ := nextBoth(t, w, bothKept{})
			v := slices.Clone(w)
			v[0] = sourceOf("b")
			v[many] = sourceOf("")
			checkTracedAgain(t, v, x.known, placesTo(cut)[1:]...)
			checkRunAgain(t, v, x.list, placesTo(cut + 1)[1:]...)
			checkTracedAgain(t, w, buildTraced(v, x.known).list)
		}
	}
}

// P17 and P18: a step that failed, or was made for the first time, makes just what reads it be run; what did not come to be read before it failed does not count.
func TestWhatWasNotReadBeforeItFailed(t *testing.T) {
	first, read := script(lineFail(0), lineRead(1)), script(lineRead(0))
	red := world(sourceOf("!"), sourceOf("s"), stepOf(on(0, 1), first...), stepOf(on(2), read...), stepOf(on(1), read...), stepOf(on(3, 4), lineRead(1)))
	green := slices.Clone(red)
	green[0] = sourceOf("g")
	other := slices.Clone(red)
	other[1] = sourceOf("t")
	made, failed := buildTraced(green, nil), buildTraced(red, nil)
	if !slices.Equal(made.ran, on(2, 3, 5)) || !slices.Equal(failed.ran, on(2, 4)) {
		t.Fatalf("from nothing %v and %v are run", made.ran, failed.ran)
	}
	checkTracedAgain(t, other, failed.list, 4)
	checkRunAgain(t, other, buildKept(red, nil).list, 2, 4)
	checkTracedAgain(t, green, failed.list, 2, 5)
	checkTracedAgain(t, red, made.list, 2)
	checkTracedAgain(t, red, failed.list)
	checkTracedAgain(t, green, buildTraced(green, failed.list).list)
	checkTracedAgain(t, red, buildTraced(green, failed.list).list)
}

// P17 and P18: nothing is run if nothing changes, if what changes is read by nothing, or if it changes back.
func TestNothingIsTracedAgain(t *testing.T) {
	d := &dice{state: 186}
	unneeded, needed := 0, 0
	for _, w := range worldsToBuild() {
		first := buildTraced(w, nil)
		checkTracedAgain(t, w, first.list)
		for at, x := range w {
			isRead := slices.ContainsFunc(tracedOf(w), func(a tracedStep) bool {
				return slices.ContainsFunc(a.x.Reads, func(r impl.Seen) bool { return w[a.at].Ins[r.In] == at })
			})
			if x.Makes || isRead {
				continue
			}
			checkTracedAgain(t, slices.Concat(w[:at], world(sourceOf("other")), w[at+1:]), first.list)
			if slices.ContainsFunc(w, func(y impl.Target) bool { return slices.Contains(y.Ins, at) }) {
				needed++
			} else {
				unneeded++
			}
		}
		second := buildTraced(changed(d, w), first.list)
		checkTracedAgain(t, w, second.list)
	}
	if min(unneeded, needed) < 3000 {
		t.Errorf("what nothing needs changes %d times, and what is needed but not read %d times", unneeded, needed)
	}
}

// checkNotTraced holds that nothing is told of a build that cannot be.
func checkNotTraced(t *testing.T, w []impl.Target, list []impl.Trace) {
	t.Helper()
	checkTraceBuild(t, w, list, traceBuild{})
}

// P17: with traces that are not right nothing is built, also not sources, whether a step reads what they read or not.
func TestNothingWithTracesNotRight(t *testing.T) {
	read := script(lineRead(0))
	w := world(sourceOf("a"), sourceOf("!"), stepOf(on(0), read...), stepOf(on(1), lineFail(0)), stepOf(nil, linePut("x")))
	good := traces(trace(madeOf("a"), read, 1, saw(0, "a")), trace(notMade(), script(lineFail(0)), 1, saw(0, "!")))
	checkTracedAgain(t, w, good, 4)
	lists := [][]impl.Trace{append(slices.Clone(good), good[0]), append(slices.Clone(good), good[1]), append(slices.Clone(good), fillerTraces(59)...), fillerTraces(61), fillerTraces(1000)}
	// Two traces that fit one step are the same, or one of them is not right.
	lists = append(lists, traces(good[0], trace(madeOf("b"), read, 1, saw(0, "a"))), traces(good[0], trace(madeOf("a"), read, 1)), traces(trace(madeOf("a"), read, 1, saw(0, "a"), saw(0, "a")), good[0]))
	for _, none := range tracesNotRight() {
		lists = append(lists, traces(none), with(good, 0, none), with(good, 1, none), with(good, 2, none))
	}
	for _, list := range lists {
		checkTraces(t, list, false)
		for _, v := range [][]impl.Target{nil, w, world(sourceOf("a")), chain(12)} {
			checkNotTraced(t, v, list)
		}
	}
}

// P17: of targets that are no world nothing is built, whatever is kept.
func TestNothingTracedOfNoWorld(t *testing.T) {
	read := script(lineRead(0))
	w := world(sourceOf("a"), stepOf(on(0), read...))
	good := traces(trace(madeOf("a"), read, 1, saw(0, "a")), trace(madeOf("x"), script(linePut("x")), 0))
	nones := [][]impl.Target{chain(13), slices.Repeat(w[:1], 13)}
	for _, none := range notTargets(2) {
		nones = append(nones, world(none), append(slices.Clone(w), none), append(world(none), w[0]), append(slices.Clone(w), none, sourceOf("b")))
	}
	for _, none := range notTargets(6) {
		nones = append(nones, append(chain(6), none))
	}
	many := 0
	for _, none := range nones {
		if impl.WorldOk(none) {
			continue
		}
		many++
		for _, list := range [][]impl.Trace{nil, good, fillerTraces(60), fillerTraces(61)} {
			checkNotTraced(t, none, list)
		}
	}
	if many < 200 {
		t.Errorf("there are %d targets that are no world only", many)
	}
}

// P16 to P18, P87 and P88: what is handed in is left as it was, and what is handed out shares no memory with it, nor one answer with another.
func TestTracesShareNothing(t *testing.T) {
	list := rolledTracings(1787, 400)
	for _, k := range knownTracings() {
		list = append(list, k.tracing)
	}
	for _, k := range rolledTracings(1788, 100) {
		list = append(list, tracing{k.w, buildTraced(k.w, nil).list})
	}
	for _, none := range tracesNotRight()[:40] {
		list = append(list, tracing{chain(3), append(chainTraces(3), none)})
	}
	list = append(list, tracing{chain(13), chainTraces(3)}, tracing{chain(3), fillerTraces(61)})
	for _, old := range list {
		w, known := handed(old.w), handed(old.list)
		was := wholeText(w, known)
		impl.TracesOk(known)
		var answers []any
		for range 2 {
			made, behind, ran := impl.TraceBuild(w, known)
			answers = append(answers, made, behind, ran)
		}
		for _, x := range known {
			impl.TraceFits(x, x.S, []string{"a", ""})
		}
		checkMemory(t, "a build by traces", was, []any{w, known}, answers)
	}
	for _, r := range rolledRooms(1789, 2000) {
		s, ins := handed(r.s), handed(r.ins)
		was := wholeText(s, ins)
		x, _ := impl.TraceOf(s, ins)
		y, _ := impl.TraceOf(s, ins)
		z := handed(x)
		wasTrace := wholeText(z)
		impl.TraceFits(z, s, ins)
		checkMemory(t, "a trace", was, []any{s, ins}, []any{x, y})
		checkMemory(t, "a fit", wasTrace, []any{z}, nil)
	}
}
