package tests

import (
	"fmt"
	"slices"
	"testing"

	"loop.example/packageworld/impl"
)

func entry(m impl.Made, s []impl.Line, ins ...string) impl.Entry {
	return impl.Entry{S: s, Ins: ins, M: m}
}

// entryOf is what a script makes on texts, told without impl.
func entryOf(s []impl.Line, ins ...string) impl.Entry {
	ran := mustRan(roomOf(s, ins...))
	return entry(impl.Made{Ok: ran.Code == 0, Text: ran.Out}, s, ins...)
}

func entries(list ...impl.Entry) []impl.Entry {
	return list
}

// sameAsk reports whether two entries are of the same script on the same texts.
func sameAsk(a impl.Entry, b impl.Entry) bool {
	return slices.Equal(a.S, b.S) && slices.Equal(a.Ins, b.Ins)
}

func sameEntry(a impl.Entry, b impl.Entry) bool {
	return sameAsk(a, b) && a.M == b.M
}

func sameEntries(a []impl.Entry, b []impl.Entry) bool {
	return slices.EqualFunc(a, b, sameEntry)
}

// placeAsked is where an entry of the same script on the same texts stands, or -1.
func placeAsked(list []impl.Entry, e impl.Entry) int {
	return slices.IndexFunc(list, func(x impl.Entry) bool { return sameAsk(x, e) })
}

func isKept(list []impl.Entry, e impl.Entry) bool {
	return placeAsked(list, e) >= 0
}

// entriesText tells entries with all bytes that are no letters, one a line.
func entriesText(list []impl.Entry) string {
	text := ""
	for place, e := range list {
		text += fmt.Sprintf("\n%d: %v %q by %#v on %q", place, e.M.Ok, e.M.Text, e.S, e.Ins)
	}
	return text
}

// filler is one of many entries that no world of these tests asks for.
func filler(number int) impl.Entry {
	text := fmt.Sprintf("fill%d", number)
	return entry(madeOf(text), script(linePut(text)))
}

func fillers(many int) []impl.Entry {
	var list []impl.Entry
	for number := range many {
		list = append(list, filler(number))
	}
	return list
}

// keptBuild is what a build with what is kept tells.
type keptBuild struct {
	made []impl.Made
	list []impl.Entry
	ran  []int
}

func buildKept(w []impl.Target, list []impl.Entry) keptBuild {
	made, kept, ran := impl.KeptBuild(w, list)
	return keptBuild{made: made, list: kept, ran: ran}
}

func keptText(b keptBuild) string {
	return fmt.Sprintf("%v, run %v, kept%s", b.made, b.ran, entriesText(b.list))
}

func checkKeptBuild(t *testing.T, w []impl.Target, list []impl.Entry, must keptBuild) {
	t.Helper()
	b := buildKept(w, list)
	if !slices.Equal(b.made, must.made) || !slices.Equal(b.ran, must.ran) || !sameEntries(b.list, must.list) {
		t.Fatalf("KeptBuild is %s\nnot %s\nof%s\nwith%s", keptText(b), keptText(must), worldText(w), entriesText(list))
	}
}

func checkKept(t *testing.T, list []impl.Entry, must bool) {
	t.Helper()
	if impl.KeptOk(list) != must {
		t.Fatalf("KeptOk is %v of%s", !must, entriesText(list))
	}
}

func checkFound(t *testing.T, list []impl.Entry, e impl.Entry, must int) {
	t.Helper()
	if place := impl.KeptFind(list, e.S, e.Ins); place != must {
		t.Fatalf("KeptFind of %v on %q is %d, not %d, in%s", e.S, e.Ins, place, must, entriesText(list))
	}
}

func worldsText(worlds [][]impl.Target) string {
	text := ""
	for _, w := range worlds {
		text += worldText(w) + "\n"
	}
	return text
}

func checkSwept(t *testing.T, list []impl.Entry, worlds [][]impl.Target, must []impl.Entry) {
	t.Helper()
	if left := impl.KeptSweep(list, worlds); !sameEntries(left, must) {
		t.Fatalf("KeptSweep leaves%s\nnot%s\nof%s\nfor%s", entriesText(left), entriesText(must), entriesText(list), worldsText(worlds))
	}
}

// asking is a step of a world that asks for an entry: its place, and what it makes.
type asking struct {
	at int
	e  impl.Entry
}

// askedOf are the steps of a world of which all inputs are made, told without impl.
func askedOf(w []impl.Target) []asking {
	var list []asking
	made := mustBuild(w)
	for at, x := range w {
		var texts []string
		for _, in := range x.Ins {
			if made[in].Ok {
				texts = append(texts, made[in].Text)
			}
		}
		if x.Makes && len(texts) == len(x.Ins) {
			list = append(list, asking{at, entry(made[at], x.S, texts...)})
		}
	}
	return list
}

// freshOf are those steps that are the first ones to ask for what is not kept.
func freshOf(all []asking, list []impl.Entry) []asking {
	var fresh []asking
	for _, a := range all {
		isFirst := !slices.ContainsFunc(fresh, func(b asking) bool { return sameAsk(a.e, b.e) })
		if isFirst && !isKept(list, a.e) {
			fresh = append(fresh, a)
		}
	}
	return fresh
}

// mustKeep is what the document has a build with what is kept tell: it is known before the build for which steps there is room.
func mustKeep(w []impl.Target, list []impl.Entry) keptBuild {
	all := askedOf(w)
	fresh := freshOf(all, list)
	fresh = fresh[:min(len(fresh), 60-len(list))]
	must := keptBuild{made: mustBuild(w), list: slices.Clone(list)}
	for _, a := range fresh {
		must.list = append(must.list, a.e)
	}
	for _, a := range all {
		isFound := slices.ContainsFunc(fresh, func(b asking) bool { return b.at < a.at && sameAsk(a.e, b.e) })
		if !isFound && !isKept(list, a.e) {
			must.ran = append(must.ran, a.at)
		}
	}
	return must
}

// mustLeave is what the document has a sweep leave.
func mustLeave(list []impl.Entry, worlds [][]impl.Target) []impl.Entry {
	var asked []impl.Entry
	for _, w := range worlds {
		for _, a := range askedOf(w) {
			asked = append(asked, a.e)
		}
	}
	return slices.DeleteFunc(slices.Clone(list), func(e impl.Entry) bool { return !isKept(asked, e) })
}

// mustBeRight reports whether the document has entries be right.
func mustBeRight(list []impl.Entry) bool {
	for place, e := range list {
		if !impl.ThingsOk(e.Ins) || !impl.ScriptOk(e.S, len(e.Ins)) || entryOf(e.S, e.Ins...).M != e.M {
			return false
		}
		if isKept(list[place+1:], e) {
			return false
		}
	}
	return len(list) <= 60
}

func shuffled[T any](d *dice, list []T) []T {
	var all []T
	for _, x := range list {
		all = slices.Insert(all, d.roll(len(all)+1), x)
	}
	return all
}

// someOf are about so many in ten of some elements, in order.
func someOf[T any](d *dice, list []T, many int) []T {
	var some []T
	for _, x := range list {
		if d.roll(10) < many {
			some = append(some, x)
		}
	}
	return some
}

// distinct are entries, of which of each script and texts the first one is left.
func distinct(list []impl.Entry) []impl.Entry {
	var all []impl.Entry
	for _, e := range list {
		if !isKept(all, e) {
			all = append(all, e)
		}
	}
	return all
}

func rolledEntry(d *dice) impl.Entry {
	r := rolledRoom(d)
	return entryOf(r.s, r.ins...)
}

// near is an entry that is like another one: of its script on other texts, or of another script on its texts.
func near(d *dice, e impl.Entry) impl.Entry {
	if d.roll(2) == 0 && len(e.Ins) > 0 {
		ins := slices.Clone(e.Ins)
		ins[d.roll(len(ins))] = rolledThing(d)
		return entryOf(e.S, ins...)
	}
	if len(e.S) > 0 && d.roll(2) == 0 {
		return entryOf(e.S[:len(e.S)-1], e.Ins...)
	}
	return entryOf(with(e.S[:min(len(e.S), 9)], 0, rolledLine(d, len(e.Ins))), e.Ins...)
}

// rolledAround is some of what a world asks for, what is like that, and what has nothing to do with it.
func rolledAround(d *dice, w []impl.Target) []impl.Entry {
	var list []impl.Entry
	share := d.roll(11)
	for _, a := range askedOf(w) {
		if d.roll(10) < share {
			list = append(list, a.e)
		}
		if d.roll(3) == 0 {
			list = append(list, near(d, a.e))
		}
	}
	for range d.roll(3) {
		list = append(list, rolledEntry(d))
	}
	return distinct(list)
}

// rolledKept is what can be kept when a world is built, in any order; of some there is no room for more, or for few.
func rolledKept(d *dice, w []impl.Target) []impl.Entry {
	list := rolledAround(d, w)
	if d.roll(2) == 0 {
		list = append(list, fillers(60-d.roll(7)-len(list))...)
	}
	return shuffled(d, list)
}

// doubled is a world with some of its targets once more, as far as there is room: steps with the same script on the same texts.
func doubled(d *dice, w []impl.Target) []impl.Target {
	more := someOf(d, w, 4)
	return append(slices.Clone(w), more[:min(len(more), 12-len(w))]...)
}

// keeping is a world and what is kept when it is built.
type keeping struct {
	w    []impl.Target
	list []impl.Entry
}

func rolledKeepings(seed uint64, many int) []keeping {
	d := &dice{state: seed}
	var all []keeping
	for range many {
		w := rolledWorld(d, d.roll(13))
		if d.roll(2) == 0 {
			w = doubled(d, w)
		}
		all = append(all, keeping{w, rolledKept(d, w)})
	}
	return all
}

// smallKeepings are all small worlds, each with nothing kept, with all that it asks for but one, and where there is room for one more, or for none.
func smallKeepings() []keeping {
	var all []keeping
	for _, w := range smallWorlds(3) {
		var asked []impl.Entry
		for _, a := range askedOf(w) {
			asked = append(asked, a.e)
		}
		asked = distinct(asked)
		all = append(all, keeping{w, nil}, keeping{w, asked}, keeping{w, fillers(59)}, keeping{w, fillers(60)})
		for place := range asked {
			all = append(all, keeping{w, without(asked, place)}, keeping{w, append(fillers(59), asked[place])})
		}
	}
	return all
}

// keepings are worlds and what is kept of which it is asked what a build with it tells.
func keepings() []keeping {
	all := append(smallKeepings(), rolledKeepings(14, 8000)...)
	for _, x := range knownKeepings() {
		all = append(all, x.keeping)
	}
	d := &dice{state: 141}
	for _, x := range knownWorlds() {
		all = append(all, keeping{x.w, nil}, keeping{x.w, rolledKept(d, x.w)})
	}
	return all
}

// knownKeeping is a world and what is kept, of which was found by hand what its targets come to, what is kept behind that, and what is run.
type knownKeeping struct {
	keeping
	made []impl.Made
	put  []impl.Entry
	ran  []int
}

func known(w []impl.Target, list []impl.Entry, made []impl.Made, put []impl.Entry, ran ...int) knownKeeping {
	return knownKeeping{keeping{w, list}, made, put, ran}
}

func mades(list ...impl.Made) []impl.Made {
	return list
}

// knownKeepings are worlds and what is kept at the edges that the document names.
func knownKeepings() []knownKeeping {
	a, b, mark := sourceOf("a"), sourceOf("b"), sourceOf("!")
	read, turn, both := script(lineRead(0)), script(lineRead(0), lineTurn()), script(lineRead(0), lineRead(1))
	fail, first, put := script(lineFail(0)), script(lineRead(0), lineKeep(1)), script(linePut("x"))
	readA, turnA, failMark, putX := entry(madeOf("a"), read, "a"), entry(madeOf("a"), turn, "a"), entry(notMade(), fail, "!"), entry(madeOf("x"), put)
	aa := mades(madeOf("a"), madeOf("a"))
	aaa := mades(madeOf("a"), madeOf("a"), madeOf("a"))
	failed := mades(madeOf("!"), notMade(), notMade())
	long := bytesOf(40)
	return []knownKeeping{
		// Nothing kept, no targets, and sources alone; no source takes what a step without lines and inputs made.
		known(nil, nil, nil, nil),
		known(world(), entries(), nil, nil),
		known(nil, entries(readA, failMark), nil, nil),
		known(nil, fillers(60), nil, nil),
		known(world(a, mark), nil, mades(madeOf("a"), madeOf("!")), nil),
		known(world(a, b), entries(entry(madeOf(""), nil), readA), mades(madeOf("a"), madeOf("b")), nil),
		known(world(a), fillers(60), mades(madeOf("a")), nil),
		// What is not kept is run and is kept behind all others, and what is kept is not run.
		known(world(a, stepOf(on(0), read...)), nil, aa, entries(readA), 1),
		known(world(a, stepOf(on(0), read...)), entries(readA), aa, nil),
		known(world(a, stepOf(on(0), read...)), entries(filler(1), putX), aa, entries(readA), 1),
		known(world(a, stepOf(on(0), read...)), entries(filler(1), readA, putX), aa, nil),
		known(world(a, stepOf(on(0), read...), stepOf(on(0), turn...)), entries(turnA), aaa, entries(readA), 1),
		known(world(a, stepOf(on(0), turn...), stepOf(on(0), read...)), nil, aaa, entries(turnA, readA), 1, 2),
		known(world(a, stepOf(on(0), turn...), b, stepOf(on(0), read...)), entries(turnA), mades(madeOf("a"), madeOf("a"), madeOf("b"), madeOf("a")), entries(readA), 3),
		// Steps without inputs, without lines, and without both.
		known(world(stepOf(nil, put...)), nil, mades(madeOf("x")), entries(putX), 0),
		known(world(stepOf(nil, put...)), entries(putX), mades(madeOf("x")), nil),
		known(world(a, stepOf(on(0))), nil, mades(madeOf("a"), madeOf("")), entries(entry(madeOf(""), nil, "a")), 1),
		known(world(a, stepOf(on(0))), entries(entry(madeOf(""), nil, "a")), mades(madeOf("a"), madeOf("")), nil),
		known(world(a, stepOf(on(0))), entries(entry(madeOf(""), nil)), mades(madeOf("a"), madeOf("")), entries(entry(madeOf(""), nil, "a")), 1),
		known(world(stepOf(nil)), nil, mades(madeOf("")), entries(entry(madeOf(""), nil)), 0),
		known(world(stepOf(on())), entries(entry(madeOf(""), script(), []string{}...)), mades(madeOf("")), nil),
		known(world(stepOf(nil)), entries(entry(madeOf(""), nil, "")), mades(madeOf("")), entries(entry(madeOf(""), nil)), 0),
		// A step that failed, or made too much, is kept so, and is not run again.
		known(world(mark, stepOf(on(0), fail...)), nil, failed[:2], entries(failMark), 1),
		known(world(mark, stepOf(on(0), fail...)), entries(failMark), failed[:2], nil),
		known(world(sourceOf(long), stepOf(on(0), lineRead(0), linePut("z"))), nil, mades(madeOf(long), notMade()), entries(entry(notMade(), script(lineRead(0), linePut("z")), long)), 1),
		known(world(sourceOf(long), stepOf(on(0), lineRead(0), linePut("z"))), entries(entry(notMade(), script(lineRead(0), linePut("z")), long)), mades(madeOf(long), notMade()), nil),
		// A step whose input was not made is neither run nor kept, whatever is kept: its script on an empty text, or on none.
		known(world(mark, stepOf(on(0), fail...), stepOf(on(1), read...)), nil, failed, entries(failMark), 1),
		known(world(mark, stepOf(on(0), fail...), stepOf(on(1), read...)), entries(failMark, entry(madeOf(""), read, "")), failed, nil),
		known(world(mark, stepOf(on(0), fail...), stepOf(on(1), put...)), entries(putX, entry(madeOf("x"), put, ""), entry(madeOf("x"), put, "!")), failed, entries(failMark), 1),
		known(world(mark, stepOf(on(0), fail...), stepOf(on(0, 1), put...)), entries(failMark, putX, entry(madeOf("x"), put, "!"), entry(madeOf("x"), put, "!", "")), failed, nil),
		known(world(mark, stepOf(on(0), fail...), stepOf(on(1), fail...)), entries(failMark), failed, nil),
		known(world(mark, stepOf(on(0), fail...), stepOf(on(1)), stepOf(on(2))), nil, append(mades(madeOf("!")), notMade(), notMade(), notMade()), entries(failMark), 1),
		// What was made empty was made, and is asked for.
		known(world(a, stepOf(on(0)), stepOf(on(1), read...)), entries(entry(madeOf(""), read, "")), mades(madeOf("a"), madeOf(""), madeOf("")), entries(entry(madeOf(""), nil, "a")), 1),
		// Two steps with the same script on the same texts: of one input, of two sources, of a source and what was made of it, and ones that fail.
		known(world(a, stepOf(on(0), read...), stepOf(on(0), read...)), nil, aaa, entries(readA), 1),
		known(world(a, a, stepOf(on(0), read...), stepOf(on(1), read...)), nil, slices.Repeat(mades(madeOf("a")), 4), entries(readA), 2),
		known(world(a, stepOf(on(0), read...), stepOf(on(1), read...)), nil, aaa, entries(readA), 1),
		known(world(stepOf(nil, put...), stepOf(nil, put...)), nil, mades(madeOf("x"), madeOf("x")), entries(putX), 0),
		known(world(mark, stepOf(on(0), fail...), stepOf(on(0), fail...)), nil, failed, entries(failMark), 1),
		known(slices.Repeat(world(stepOf(nil, put...)), 12), nil, slices.Repeat(mades(madeOf("x")), 12), entries(putX), 0),
		known(slices.Repeat(world(stepOf(nil, put...)), 12), entries(readA, putX), slices.Repeat(mades(madeOf("x")), 12), nil),
		// Entries of the same script on other texts: on one more, on others, and in another order.
		known(world(b, stepOf(on(0), read...)), entries(readA), mades(madeOf("b"), madeOf("b")), entries(entry(madeOf("b"), read, "b")), 1),
		known(world(a, stepOf(on(0), read...)), entries(entry(madeOf("a"), read, "a", "b")), aa, entries(readA), 1),
		known(world(a, b, stepOf(on(0, 1), read...)), entries(readA, entry(madeOf("a"), read, "a", "")), mades(madeOf("a"), madeOf("b"), madeOf("a")), entries(entry(madeOf("a"), read, "a", "b")), 2),
		known(world(a, b, stepOf(on(0, 1), both...)), entries(entry(madeOf("ba"), both, "b", "a")), mades(madeOf("a"), madeOf("b"), madeOf("ab")), entries(entry(madeOf("ab"), both, "a", "b")), 2),
		known(world(b, a, stepOf(on(0, 1), both...)), entries(entry(madeOf("ba"), both, "b", "a")), mades(madeOf("b"), madeOf("a"), madeOf("ba")), nil),
		known(world(sourceOf("ab"), sourceOf("c"), stepOf(on(0, 1), both...)), entries(entry(madeOf("abc"), both, "a", "bc")), mades(madeOf("ab"), madeOf("c"), madeOf("abc")), entries(entry(madeOf("abc"), both, "ab", "c")), 2),
		known(world(a, b, stepOf(on(0), read...), stepOf(on(1), read...)), entries(readA), mades(madeOf("a"), madeOf("b"), madeOf("a"), madeOf("b")), entries(entry(madeOf("b"), read, "b")), 3),
		// A text that was not read counts all the same.
		known(world(b, stepOf(on(0), put...)), entries(entry(madeOf("x"), put, "a"), putX), mades(madeOf("b"), madeOf("x")), entries(entry(madeOf("x"), put, "b")), 1),
		// Entries of another script on the same texts, one that makes the same among them.
		known(world(a, stepOf(on(0), read...)), entries(turnA), aa, entries(readA), 1),
		known(world(a, stepOf(on(0), read...)), entries(entry(madeOf("a"), script(lineRead(0), linePut("")), "a"), entry(madeOf(""), nil, "a")), aa, entries(readA), 1),
		known(world(a, stepOf(on(0), lineRead(0), lineKeep(2))), entries(entry(madeOf("a"), first, "a"), readA), aa, entries(entry(madeOf("a"), script(lineRead(0), lineKeep(2)), "a")), 1),
		// An input changes and what is made of it does not: what is behind it is found.
		known(world(sourceOf("ac"), stepOf(on(0), first...), stepOf(on(1), read...)), entries(entry(madeOf("a"), first, "ab"), readA), mades(madeOf("ac"), madeOf("a"), madeOf("a")), entries(entry(madeOf("a"), first, "ac")), 1),
		known(world(sourceOf("bc"), stepOf(on(0), first...), stepOf(on(1), read...)), entries(entry(madeOf("a"), first, "ab"), readA), mades(madeOf("bc"), madeOf("b"), madeOf("b")), entries(entry(madeOf("b"), first, "bc"), entry(madeOf("b"), read, "b")), 1, 2),
		// No room for one more: what is run is not kept, and is run again where it is asked for again; what is kept is found.
		known(world(a, stepOf(on(0), read...)), fillers(60), aa, nil, 1),
		known(world(a, stepOf(on(0), read...), stepOf(on(0), read...)), fillers(60), aaa, nil, 1, 2),
		known(world(a, stepOf(on(0), read...)), fillers(59), aa, entries(readA), 1),
		known(world(a, stepOf(on(0), read...), stepOf(on(0), read...)), fillers(59), aaa, entries(readA), 1),
		known(world(a, stepOf(on(0), read...), stepOf(on(0), turn...), stepOf(on(0), read...), stepOf(on(0), turn...)), fillers(59), slices.Repeat(mades(madeOf("a")), 5), entries(readA), 1, 2, 4),
		known(world(a, stepOf(on(0), read...), stepOf(on(0), turn...), stepOf(on(0), turn...)), fillers(58), slices.Repeat(mades(madeOf("a")), 4), entries(readA, turnA), 1, 2),
		known(world(a, stepOf(on(0), read...), stepOf(on(0), turn...)), append(fillers(59), turnA), aaa, nil, 1),
		known(world(a, stepOf(on(0), read...)), append(fillers(59), readA), aa, nil),
		known(world(a, stepOf(on(0), read...)), append(entries(readA), fillers(59)...), aa, nil),
		known(world(mark, stepOf(on(0), fail...), stepOf(on(0), fail...)), fillers(60), failed, nil, 1, 2),
		// As long a chain as there can be, of which the first step is kept, or all but the last one.
		known(chain(12), nil, chainMade(12), chainEntries(12), 1, 2, 3, 4, 5, 6, 7, 8, 9, 10, 11),
		known(chain(12), chainEntries(2), chainMade(12), chainEntries(12)[1:], 2, 3, 4, 5, 6, 7, 8, 9, 10, 11),
		known(chain(12), chainEntries(11), chainMade(12), chainEntries(12)[10:], 11),
		known(chain(12), chainEntries(12)[1:], chainMade(12), chainEntries(2), 1),
	}
}

// chainEntries are those of all steps of a chain.
func chainEntries(many int) []impl.Entry {
	var list []impl.Entry
	made := chainMade(many)
	for at := 1; at < many; at++ {
		list = append(list, entry(made[at], script(lineRead(0), linePut("z")), made[at-1].Text))
	}
	return list
}

// P14, P84 and P85: builds with what is kept that were told by hand.
func TestKnownKeptBuilds(t *testing.T) {
	for _, x := range knownKeepings() {
		must := keptBuild{x.made, append(slices.Clone(x.list), x.put...), x.ran}
		checkKept(t, x.list, true)
		checkKeptBuild(t, x.w, x.list, must)
		checkBuilt(t, x.w, x.made)
		if told := mustKeep(x.w, x.list); !sameEntries(told.list, must.list) || !slices.Equal(told.ran, must.ran) {
			t.Fatalf("it is told otherwise: %s\nand not %s", keptText(told), keptText(must))
		}
	}
}

// P14: builds with what is kept come to just what is told of them in another way, run just those steps and keep just what is told.
func TestKeptBuildsAreAsTold(t *testing.T) {
	ran, found, again, failed := 0, 0, 0, 0
	for _, x := range append(keepings(), rolledKeepings(140, 12000)...) {
		must := mustKeep(x.w, x.list)
		checkKeptBuild(t, x.w, x.list, must)
		all := askedOf(x.w)
		ran += len(must.ran)
		found += len(all) - len(must.ran)
		again += len(must.ran) - len(freshOf(all, x.list))
		for _, a := range all {
			if !a.e.M.Ok && !slices.Contains(must.ran, a.at) {
				failed++
			}
		}
	}
	if min(ran, found, failed) < 3000 || again < 300 {
		t.Errorf("steps are run %d times, found %d times, run twice for want of room %d times, and found to have failed %d times", ran, found, again, failed)
	}
}

// The number that chapter 11 names.
func TestKeptNumber(t *testing.T) {
	if impl.KeptMost != 60 {
		t.Errorf("KeptMost is %d", impl.KeptMost)
	}
}

// P14: a build with what is kept comes to the same as one from nothing; what is kept behind it is right and begins with what was kept; each step that is run is kept, if there is room.
func TestKeptChangesNothing(t *testing.T) {
	open, full := 0, 0
	for _, x := range keepings() {
		b := buildKept(x.w, x.list)
		checkBuilt(t, x.w, b.made)
		checkKept(t, b.list, true)
		if len(b.list) < len(x.list) || !sameEntries(b.list[:len(x.list)], x.list) || len(b.list) > 60 {
			t.Fatalf("of%s\nis kept%s\nbehind%s", entriesText(x.list), entriesText(b.list), worldText(x.w))
		}
		if len(b.ran) < len(b.list)-len(x.list) || len(b.list) < 60 && len(b.ran) != len(b.list)-len(x.list) {
			t.Fatalf("%v are run, and kept is%s\nbehind%s\nof%s", b.ran, entriesText(b.list), entriesText(x.list), worldText(x.w))
		}
		switch {
		case len(b.list) == 60:
			full++
		case len(b.ran) > 0:
			open++
		}
	}
	if min(open, full) < 2000 {
		t.Errorf("steps are run where there is room left %d times, and there is none %d times", open, full)
	}
}

// P14: what is kept of one build after the other, until there is no room, is right all the time, and each build comes to the same as from nothing.
func TestManyBuildsOneBehindTheOther(t *testing.T) {
	d := &dice{state: 142}
	full := 0
	for range 300 {
		var list []impl.Entry
		w := rolledWorld(d, 12)
		for range 20 {
			must := mustKeep(w, list)
			checkKeptBuild(t, w, list, must)
			checkBuilt(t, w, must.made)
			_, list, _ = impl.KeptBuild(w, list)
			checkKept(t, list, true)
			w = changed(d, w)
			if d.roll(3) == 0 {
				w = rolledWorld(d, 12)
			}
		}
		if len(list) == 60 {
			full++
		}
	}
	if full < 50 {
		t.Errorf("there is no room any more %d times only", full)
	}
}

// P14: a second build runs nothing, if there was room for all that was run, and changes nothing of what is kept; and just then.
func TestSecondBuildRunsNothing(t *testing.T) {
	room, none := 0, 0
	for _, x := range keepings() {
		b := buildKept(x.w, x.list)
		second := buildKept(x.w, b.list)
		if !slices.Equal(second.made, b.made) || !sameEntries(second.list, b.list) {
			t.Fatalf("a second build is %s\nand the first one %s\nof%s", keptText(second), keptText(b), worldText(x.w))
		}
		hasRoom := len(freshOf(askedOf(x.w), x.list)) <= 60-len(x.list)
		if (len(second.ran) == 0) != hasRoom {
			t.Fatalf("a second build runs %v, where there is room: %v, of%s\nwith%s", second.ran, hasRoom, worldText(x.w), entriesText(x.list))
		}
		switch {
		case !hasRoom:
			none++
		case len(b.ran) > 0:
			room++
		}
	}
	if min(room, none) < 1000 {
		t.Errorf("there is room %d times, and not %d times", room, none)
	}
}

// P14: just as much room as there must be, and one less, of which the last step that is run is not kept.
func TestRoomForAll(t *testing.T) {
	for many := 2; many <= 12; many++ {
		w, all := chain(many), chainEntries(many)
		for room := 0; room <= many; room++ {
			list := fillers(60 - room)
			put := min(room, many-1)
			b := buildKept(w, list)
			if !sameEntries(b.list, append(slices.Clone(list), all[:put]...)) || len(b.ran) != many-1 {
				t.Fatalf("with room for %d a chain of %d is %s", room, many, keptText(b))
			}
			second := buildKept(w, b.list)
			if len(second.ran) != many-1-put || len(second.ran) > 0 && second.ran[0] != put+1 {
				t.Fatalf("with room for %d a chain of %d runs %v again", room, many, second.ran)
			}
		}
	}
}

// P14: with what is kept of one world another one comes to the same as from nothing.
func TestKeptOfOtherWorlds(t *testing.T) {
	d := &dice{state: 143}
	found := 0
	for _, x := range keepings() {
		b := buildKept(x.w, x.list)
		other := otherUnneeded(d, x.w, someOf(d, placesTo(len(x.w)), 7))
		must := mustKeep(other, b.list)
		checkKeptBuild(t, other, b.list, must)
		checkBuilt(t, other, must.made)
		found += len(askedOf(other)) - len(must.ran)
	}
	if found < 3000 {
		t.Errorf("something is found %d times only", found)
	}
}

// placesTo are so many places, from the first one on.
func placesTo(many int) []int {
	var places []int
	for at := range many {
		places = append(places, at)
	}
	return places
}

// changed is a world in which some sources have other texts, some of them those of other sources.
func changed(d *dice, w []impl.Target) []impl.Target {
	list := slices.Clone(w)
	for at, x := range w {
		if x.Makes || d.roll(3) > 0 {
			continue
		}
		list[at] = sourceOf(rolledThing(d))
		if other := w[d.roll(len(w))]; !other.Makes && d.roll(2) == 0 {
			list[at] = other
		}
	}
	return list
}

// isStale reports whether an input of a target came to another text in the second world, or was not made in the first one.
func isStale(x impl.Target, was []impl.Made, now []impl.Made) bool {
	return slices.ContainsFunc(x.Ins, func(in int) bool { return !was[in].Ok || was[in].Text != now[in].Text })
}

// P15: if only sources change, a step is run again only if one of its inputs came to another text, or was not made before; and of these just those that ask for what neither a step before the change nor one before them asked for.
func TestOnlyWhatChangedIsRun(t *testing.T) {
	ran, unmade, spared, back := 0, 0, 0, 0
	d := &dice{state: 15}
	for _, w := range append(rolledWorlds(150, 12000), worldsToBuild()...) {
		first := buildKept(w, nil)
		v := changed(d, w)
		b := buildKept(v, first.list)
		for _, at := range b.ran {
			if !v[at].Makes || !isStale(v[at], first.made, b.made) {
				t.Fatalf("%d is run in%s\nbehind%s", at, worldText(v), worldText(w))
			}
		}
		before := askedOf(w)
		var must []int
		for _, a := range askedOf(v) {
			if !slices.ContainsFunc(before, func(x asking) bool { return sameAsk(x.e, a.e) }) {
				must = append(must, a.at)
			}
			before = append(before, a)
			switch {
			case slices.Contains(must, a.at) && slices.ContainsFunc(v[a.at].Ins, func(in int) bool { return !first.made[in].Ok }):
				unmade++
			case slices.Contains(must, a.at):
				ran++
			case isStale(v[a.at], first.made, b.made):
				back++
			case leadsToChange(v, w, a.at):
				spared++
			}
		}
		if !slices.Equal(b.ran, must) {
			t.Fatalf("%v are run, not %v, in%s\nbehind%s", b.ran, must, worldText(v), worldText(w))
		}
	}
	if min(ran, unmade, spared) < 1000 || back < 30 {
		t.Errorf("steps are run for a change %d times, for what was not made before %d times, spared though they need a change %d times, and though an input changed %d times", ran, unmade, spared, back)
	}
}

// leadsToChange reports whether a target needs a source that differs in two worlds.
func leadsToChange(v []impl.Target, w []impl.Target, k int) bool {
	return slices.ContainsFunc(mustNeed(v, k), func(at int) bool { return v[at].Text != w[at].Text })
}

// P15: whatever else is kept, with room for the first build a step is run again only for a change of its inputs; and with room for both what else is kept does not make more be run.
func TestOnlyWhatChangedIsRunWithMoreKept(t *testing.T) {
	d := &dice{state: 151}
	fewer, full := 0, 0
	for _, x := range rolledKeepings(152, 8000) {
		w := changed(d, x.w)
		first := buildKept(w, x.list)
		if len(freshOf(askedOf(w), x.list)) > 60-len(x.list) {
			continue
		}
		b := buildKept(x.w, first.list)
		for _, at := range b.ran {
			if !isStale(x.w[at], first.made, b.made) {
				t.Fatalf("%d is run in%s\nbehind%s\nwith%s", at, worldText(x.w), worldText(w), entriesText(first.list))
			}
		}
		alone := buildKept(x.w, buildKept(w, nil).list)
		isFull := len(freshOf(askedOf(x.w), first.list)) > 60-len(first.list)
		for _, at := range b.ran {
			if !isFull && !slices.Contains(alone.ran, at) {
				t.Fatalf("%v are run, and %v with less kept, in%s\nbehind%s", b.ran, alone.ran, worldText(x.w), worldText(w))
			}
		}
		if isFull {
			full++
		} else if len(b.ran) < len(alone.ran) {
			fewer++
		}
	}
	if fewer < 1000 || full < 100 {
		t.Errorf("with more kept fewer steps are run %d times, and there is no room behind the change %d times", fewer, full)
	}
}

// P15: nothing is run if nothing changes, if what changes is needed by nothing, or if it changes back.
func TestNothingIsRunAgain(t *testing.T) {
	d := &dice{state: 153}
	many := 0
	for _, w := range worldsToBuild() {
		first := buildKept(w, nil)
		checkRunAgain(t, w, first.list)
		for at, x := range w {
			isNeeded := slices.ContainsFunc(w, func(y impl.Target) bool { return slices.Contains(y.Ins, at) })
			if !x.Makes && !isNeeded {
				checkRunAgain(t, slices.Concat(w[:at], world(sourceOf("other")), w[at+1:]), first.list)
				many++
			}
		}
		second := buildKept(changed(d, w), first.list)
		checkRunAgain(t, w, second.list)
	}
	if many < 3000 {
		t.Errorf("what nothing needs changes %d times only", many)
	}
}

// checkRunAgain holds which steps are run with what is kept.
func checkRunAgain(t *testing.T, w []impl.Target, list []impl.Entry, must ...int) {
	t.Helper()
	if b := buildKept(w, list); !slices.Equal(b.ran, must) {
		t.Fatalf("%v are run, not %v, of%s\nwith%s", b.ran, must, worldText(w), entriesText(list))
	}
}

// P15: where what is made of an input does not change, all behind it is found, however long the chain before and behind it; without such a step all of the chain is run.
func TestChangeThatEnds(t *testing.T) {
	for many := 2; many <= 12; many++ {
		whole := buildKept(chain(many), nil)
		other := chain(many)
		other[0] = sourceOf("b")
		checkRunAgain(t, other, whole.list, placesTo(many)[1:]...)
		for cut := 1; cut < many; cut++ {
			w := chain(many)
			w[cut] = stepOf(on(cut-1), lineRead(0), linePut("y"), lineTurn(), lineKeep(1))
			first := buildKept(w, nil)
			other := slices.Clone(w)
			other[0] = sourceOf("b")
			checkRunAgain(t, other, first.list, placesTo(cut + 1)[1:]...)
		}
	}
}

// P15: a step that failed, or was made for the first time, makes just what is behind it be run; and what fails now makes nothing be run.
func TestWhatWasNotMadeBefore(t *testing.T) {
	first, read := script(lineFail(0), lineRead(0)), script(lineRead(0))
	red := world(sourceOf("!"), sourceOf("s"), stepOf(on(0), first...), stepOf(on(2), read...), stepOf(on(1), read...), stepOf(on(3, 4), lineRead(1)))
	green := slices.Clone(red)
	green[0] = sourceOf("g")
	made := buildKept(green, nil)
	failed := buildKept(red, nil)
	if !slices.Equal(made.ran, on(2, 3, 4, 5)) || !slices.Equal(failed.ran, on(2, 4)) {
		t.Fatalf("from nothing %v and %v are run", made.ran, failed.ran)
	}
	checkRunAgain(t, green, failed.list, 2, 3, 5)
	checkRunAgain(t, red, made.list, 2)
	checkRunAgain(t, red, failed.list)
	checkRunAgain(t, green, buildKept(green, failed.list).list)
	checkRunAgain(t, red, buildKept(green, failed.list).list)
}

// lookups are scripts on texts that are like each other, but no two the same.
func lookups() []impl.Entry {
	scripts := [][]impl.Line{
		nil, script(lineRead(0)), script(lineRead(0), lineRead(0)), script(lineRead(1)), script(lineFail(0)), script(lineTurn()), script(lineKeep(0)), script(lineKeep(1)),
		script(linePut("")), script(linePut("a")), script(linePut("b")), script(linePut("ab")), script(linePut("a"), linePut("b")), script(linePut("b"), linePut("a")),
		script(lineSkip(0, 1)), script(lineSkip(0, 2)), script(lineSkip(1, 1)), script(lineRead(0), lineTurn()), script(lineTurn(), lineRead(0)),
	}
	things := [][]string{nil, {""}, {"", ""}, {"a"}, {"b"}, {"ab"}, {"a", "b"}, {"b", "a"}, {"a", ""}, {"", "a"}, {"ab", ""}, {"a", "b", ""}, {"\xff"}, {"\xc3"}, {"é"}, {"e"}, {"\x00"}, {bytesOf(40)}}
	var list []impl.Entry
	for _, s := range scripts {
		for _, ins := range things {
			list = append(list, entry(madeOf("a"), s, ins...))
		}
	}
	return list
}

// P84: of scripts on texts that are like each other each is found where it stands, and not where it does not; what it made, and whether that is right, does not count.
func TestFoundAmongAlike(t *testing.T) {
	list := lookups()
	for place, e := range list {
		checkFound(t, list, e, place)
		checkFound(t, list, impl.Entry{S: e.S, Ins: e.Ins, M: notMade()}, place)
		checkFound(t, without(list, place), e, -1)
		checkFound(t, list[:place], e, -1)
		checkFound(t, list[place:], e, 0)
		checkFound(t, entries(e), e, 0)
		checkFound(t, nil, e, -1)
		for at, other := range list {
			if at != place {
				checkFound(t, entries(other), e, -1)
				checkFound(t, entries(other, e, other, e), e, 1)
			}
		}
	}
}

// P84: nothing is nothing, however it is told: no lines, no texts and no entries.
func TestFoundOfNothing(t *testing.T) {
	for _, list := range [][]impl.Entry{entries(entry(madeOf(""), nil)), entries(impl.Entry{S: script(), Ins: []string{}}), entries(filler(0), impl.Entry{})} {
		last := len(list) - 1
		checkFound(t, list, impl.Entry{}, last)
		checkFound(t, list, impl.Entry{S: script(), Ins: []string{}}, last)
		checkFound(t, list, impl.Entry{Ins: []string{""}}, -1)
	}
	checkFound(t, nil, impl.Entry{}, -1)
	checkFound(t, entries(), impl.Entry{}, -1)
}

// P84: what is found has the script and the texts, and is the first one that has; if nothing is found, none has.
func TestFoundIsAsAsked(t *testing.T) {
	d := &dice{state: 84}
	found, missed := 0, 0
	for _, x := range append(rolledKeepings(840, 4000), smallKeepings()...) {
		asked := append(slices.Clone(x.list), rolledEntry(d), filler(70))
		for _, a := range askedOf(x.w) {
			asked = append(asked, a.e, near(d, a.e))
		}
		list := slices.Concat(x.list, someOf(d, x.list, 3), entriesNotRight()[:5])
		for _, e := range asked {
			place := impl.KeptFind(list, e.S, e.Ins)
			checkFound(t, list, e, placeAsked(list, e))
			if place >= 0 {
				found++
			} else {
				missed++
			}
		}
	}
	if min(found, missed) < 5000 {
		t.Errorf("something is found %d times, and not %d times", found, missed)
	}
}

// P84: also of what is no script, of too many or too long texts, and among too many entries, it is found what is there.
func TestFoundOfWhatIsNotRight(t *testing.T) {
	list := slices.Concat(fillers(100), entriesNotRight())
	for place, e := range list {
		checkFound(t, list, e, placeAsked(list, e))
		checkFound(t, list[place:], e, 0)
	}
	checkFound(t, list, filler(100), -1)
	checkFound(t, list, entry(madeOf("a"), script(lineRead(7)), "a"), -1)
}

// entriesNotRight are ones with which one thing is wrong; where something else than what they made is, a run would make nothing.
func entriesNotRight() []impl.Entry {
	five := []string{"a", "", "!", "b", bytesOf(40)}
	list := entries(
		// A script for more texts than there are.
		entry(notMade(), script(lineRead(0))), entry(notMade(), script(lineFail(0))), entry(notMade(), script(lineSkip(0, 1))),
		entry(notMade(), script(lineRead(1)), "a"), entry(madeOf("a"), script(lineRead(1)), "a"), entry(notMade(), script(lineRead(4)), "a", "b", "c", "d"), entry(notMade(), script(lineRead(5)), five...),
		// Too many lines.
		entry(notMade(), slices.Repeat(script(lineTurn()), 11)), entry(madeOf(""), slices.Repeat(script(lineTurn()), 11)), entry(notMade(), slices.Repeat(script(lineRead(0)), 11), ""),
		// Too many texts.
		entry(notMade(), nil, make([]string, 6)...), entry(madeOf(""), nil, make([]string, 6)...), entry(madeOf("a"), script(lineRead(0)), "a", "", "", "", "", ""), entry(notMade(), script(linePut("a")), make([]string, 100)...),
		// Something else than what the script makes: made and not, another text, a longer and a shorter one, and none.
		entry(notMade(), nil), entry(madeOf("a"), nil), entry(madeOf(""), script(linePut("a"))), entry(notMade(), script(linePut("a"))), entry(madeOf("ab"), script(linePut("a"))), entry(madeOf("A"), script(linePut("a"))),
		entry(madeOf("b"), script(lineRead(0)), "a"), entry(madeOf("a"), script(lineRead(0), lineKeep(0)), "a"), entry(madeOf("ab"), script(lineRead(0), lineTurn()), "ab"), entry(madeOf("b"), script(lineRead(0)), "a", "b"),
		entry(impl.Made{Text: "a"}, script(linePut("a"))), entry(impl.Made{Text: "a"}, script(lineRead(0)), "a"),
		entry(madeOf(""), script(lineFail(0)), "!"), entry(madeOf("!"), script(lineRead(0), lineFail(0)), "!"), entry(impl.Made{Text: "!"}, script(lineRead(0), lineFail(0)), "!"), entry(notMade(), script(lineFail(0)), "x!"), entry(notMade(), script(lineFail(0)), ""),
		entry(madeOf(bytesOf(40)), script(lineRead(0), linePut("z")), bytesOf(40)), entry(madeOf(bytesOf(40)+"z"), script(lineRead(0), linePut("z")), bytesOf(40)), entry(madeOf(""), script(lineRead(0), lineRead(0)), bytesOf(40)),
	)
	for _, x := range notLines() {
		list = append(list, entry(notMade(), script(x)), entry(notMade(), script(x), five...), entry(notMade(), script(linePut("a"), x), "b"))
	}
	for _, text := range longThings() {
		list = append(list, entry(notMade(), nil, text), entry(madeOf(""), nil, text), entry(notMade(), script(lineRead(0)), text), entry(madeOf(text), script(lineRead(0)), text), entry(madeOf("a"), script(lineRead(0)), "a", text), entry(madeOf("a"), script(lineRead(4)), "", "", text, "", "a"))
	}
	return list
}

// rightEntries are ones at the bounds of what they can be.
func rightEntries() []impl.Entry {
	long := bytesOf(40)
	return entries(
		entry(madeOf(""), nil), entry(madeOf(""), nil, ""), entry(madeOf(""), nil, "", "", "", "", ""), entry(madeOf(""), nil, long, long, long, long, long),
		entry(madeOf(""), slices.Repeat(script(lineTurn()), 10)), entry(madeOf("a"), script(linePut("a"))), entry(madeOf("a"), script(linePut("a")), "a"), entry(madeOf("a"), script(linePut("a")), "b"),
		entry(madeOf(long), script(lineRead(0)), long), entry(notMade(), script(lineRead(0), linePut("z")), long), entry(notMade(), script(lineFail(0)), "!"), entry(madeOf(""), script(lineFail(0)), ""), entry(madeOf(""), script(lineFail(0)), "x!"),
		entry(madeOf("e"), script(lineRead(4)), "a", "b", "c", "d", "e"), entry(madeOf("\xff\x00"), script(lineRead(0), lineTurn()), "\x00\xff"), entry(madeOf("!"), script(linePut("!"))),
	)
}

// P85: nothing is kept rightly, and each right entry alone, and all together; what each script makes on texts is right, and no one else's.
func TestRightEntries(t *testing.T) {
	checkKept(t, nil, true)
	checkKept(t, entries(), true)
	checkKept(t, rightEntries(), true)
	list := rightEntries()
	for _, r := range append(smallRooms()[:4000], rolledRooms(85, 3000)...) {
		list = append(list, entryOf(r.s, r.ins...))
	}
	for _, e := range list {
		checkKept(t, entries(e), true)
		for _, m := range mades(notMade(), impl.Made{Text: "a"}, impl.Made{Text: e.M.Text}, madeOf(e.M.Text+"a"), madeOf(""), madeOf("a"), madeOf(e.M.Text)) {
			checkKept(t, entries(entry(m, e.S, e.Ins...)), m == e.M)
		}
	}
}

// P85: without its last one, and its first ones, what is kept is right; with any one of it twice, wherever that stands, it is not.
func TestKeptLessAndTwice(t *testing.T) {
	twice := 0
	for _, x := range rolledKeepings(850, 1500) {
		list := buildKept(x.w, x.list).list
		checkKept(t, list, true)
		for many := range list {
			checkKept(t, list[:many], true)
			checkKept(t, list[many:], true)
		}
		if len(list) > 20 {
			continue
		}
		for _, e := range list {
			for at := 0; at <= len(list); at++ {
				checkKept(t, with(list, at, e), false)
				twice++
			}
		}
	}
	if twice < 10000 {
		t.Errorf("something is there twice %d times only", twice)
	}
	for _, e := range rightEntries() {
		checkKept(t, entries(e, e), false)
		checkKept(t, append(append(entries(e), fillers(58)...), e), false)
		checkKept(t, append(append(fillers(29), e, e), fillers(58)[29:]...), false)
	}
}

// P85: of entries that are alike those are right together that are not the same; two of which one is not right are not.
func TestKeptAlike(t *testing.T) {
	var list []impl.Entry
	for _, e := range lookups() {
		if impl.ScriptOk(e.S, len(e.Ins)) {
			list = append(list, entryOf(e.S, e.Ins...))
		}
	}
	for from := 0; from < len(list); from++ {
		checkKept(t, list[from:min(from+60, len(list))], true)
		for _, e := range list[from+1:] {
			checkKept(t, entries(list[from], e), true)
			checkKept(t, entries(list[from], entry(impl.Made{Ok: !e.M.Ok}, e.S, e.Ins...)), false)
		}
	}
}

// P85: as many entries as there can be are right, and one more is too many, whatever it is.
func TestLengthsOfKept(t *testing.T) {
	for many := 0; many <= 60; many++ {
		checkKept(t, fillers(many), true)
	}
	for _, many := range []int{61, 62, 120, 1000} {
		checkKept(t, fillers(many), false)
	}
	for _, e := range rightEntries() {
		checkKept(t, append(fillers(59), e), true)
		checkKept(t, append(fillers(60), e), false)
		checkKept(t, append(entries(e), fillers(60)...), false)
	}
}

// P85: an entry that is not right makes all not right, alone and wherever it stands.
func TestKeptNotRight(t *testing.T) {
	for _, none := range entriesNotRight() {
		checkKept(t, entries(none), false)
		for _, list := range [][]impl.Entry{rightEntries()[1:], fillers(3), fillers(59)} {
			for _, at := range []int{0, 1, len(list) / 2, len(list)} {
				checkKept(t, with(list, at, none), false)
			}
		}
	}
}

// P85: entries are right just if that is told of them in another way.
func TestKeptIsAsTold(t *testing.T) {
	d := &dice{state: 851}
	right, wrong := 0, 0
	for range 20000 {
		var list []impl.Entry
		for range d.roll(5) {
			list = append(list, rolledEntry(d))
		}
		if len(list) > 0 && d.roll(2) == 0 {
			list = append(list, entryChanged(d, list[d.roll(len(list))]))
		}
		list = shuffled(d, append(list, fillers(d.roll(3)*(28+d.roll(3)))...))
		must := mustBeRight(list)
		checkKept(t, list, must)
		if must {
			right++
		} else {
			wrong++
		}
	}
	if min(right, wrong) < 3000 {
		t.Errorf("entries are right %d times, and not %d times", right, wrong)
	}
}

// entryChanged is an entry that differs at random from another one in at most one thing.
func entryChanged(d *dice, e impl.Entry) impl.Entry {
	switch d.roll(6) {
	case 0:
		return entry(impl.Made{Ok: !e.M.Ok, Text: e.M.Text}, e.S, e.Ins...)
	case 1:
		return entry(impl.Made{Ok: e.M.Ok, Text: e.M.Text + "x"}, e.S, e.Ins...)
	case 2:
		return entry(e.M, append(slices.Clone(e.S), lineTurn(), lineTurn()), e.Ins...)
	case 3:
		return entry(e.M, e.S, append(slices.Clone(e.Ins), rolledThing(d))...)
	case 4:
		return entry(e.M, e.S, e.Ins[:len(e.Ins)/2]...)
	}
	return e
}

// checkNotKept holds that nothing is told of a build that cannot be.
func checkNotKept(t *testing.T, w []impl.Target, list []impl.Entry) {
	t.Helper()
	checkKeptBuild(t, w, list, keptBuild{})
}

// P14 and P86: with entries that are not right nothing is built, also not sources, and nothing is left, whether a world asks for them or not.
func TestNothingWithEntriesNotRight(t *testing.T) {
	read := script(lineRead(0))
	w := world(sourceOf("a"), sourceOf("!"), stepOf(on(0), read...), stepOf(on(1), lineFail(0)), stepOf(nil, linePut("a")))
	good := entries(entry(madeOf("a"), read, "a"), entry(notMade(), script(lineFail(0)), "!"))
	checkSwept(t, good, [][]impl.Target{w}, good)
	lists := [][]impl.Entry{append(slices.Clone(good), good[0]), append(slices.Clone(good), good[1]), append(slices.Clone(good), fillers(59)...), fillers(61), fillers(1000), entries(entry(madeOf("b"), read, "a")), entries(entry(madeOf(""), script(lineFail(0)), "!"))}
	for _, none := range entriesNotRight() {
		lists = append(lists, entries(none), with(good, 0, none), with(good, 1, none), with(good, 2, none))
	}
	for _, list := range lists {
		checkKept(t, list, false)
		for _, x := range [][]impl.Target{nil, w, world(sourceOf("a")), chain(12)} {
			checkNotKept(t, x, list)
			checkSwept(t, list, [][]impl.Target{x}, nil)
			checkSwept(t, list, [][]impl.Target{w, x}, nil)
		}
		checkSwept(t, list, nil, nil)
	}
}

// P14 and P86: of targets that are no world nothing is built, whatever is kept, and nothing is left if there is such a one among the worlds.
func TestNothingOfNoWorld(t *testing.T) {
	read := script(lineRead(0))
	w := world(sourceOf("a"), stepOf(on(0), read...))
	good := entries(entry(madeOf("a"), read, "a"), entry(madeOf("x"), script(linePut("x"))))
	nones := [][]impl.Target{chain(13), slices.Repeat(w[:1], 13)}
	for _, none := range notTargets(2) {
		nones = append(nones, world(none), append(slices.Clone(w), none), append(world(none), w[0]), append(slices.Clone(w), none, sourceOf("b")))
	}
	for _, none := range notTargets(6) {
		nones = append(nones, append(chain(6), none))
	}
	for _, none := range nones {
		if impl.WorldOk(none) {
			continue
		}
		for _, list := range [][]impl.Entry{nil, good, fillers(60), fillers(61)} {
			checkNotKept(t, none, list)
		}
		checkSwept(t, good, [][]impl.Target{w}, good[:1])
		for _, worlds := range [][][]impl.Target{{none}, {none, w}, {w, none}, {w, none, w}, {w, w, nil, none}, {none, none}} {
			checkSwept(t, good, worlds, nil)
		}
	}
}

// knownSweep is what is kept and worlds, of which was found by hand which places are left.
type knownSweep struct {
	list   []impl.Entry
	worlds [][]impl.Target
	left   []int
}

// P86: sweeps that were told by hand.
func TestKnownSweeps(t *testing.T) {
	read, fail, first, put := script(lineRead(0)), script(lineFail(0)), script(lineRead(0), lineKeep(1)), script(linePut("x"))
	a, b, mark := sourceOf("a"), sourceOf("b"), sourceOf("!")
	readA, readB, failMark, putX := entry(madeOf("a"), read, "a"), entry(madeOf("b"), read, "b"), entry(notMade(), fail, "!"), entry(madeOf("x"), put)
	list := entries(putX, readB, failMark, readA, entry(madeOf(""), nil), entry(madeOf("a"), first, "ab"), entry(madeOf(""), read, ""), entry(madeOf("x"), put, ""))
	onA, onB := world(a, stepOf(on(0), read...)), world(b, stepOf(on(0), read...))
	for _, x := range []knownSweep{
		// No worlds, and ones that find nothing: without targets, sources alone, other texts and other scripts.
		{list, nil, nil}, {list, [][]impl.Target{}, nil}, {list, [][]impl.Target{nil}, nil}, {list, [][]impl.Target{nil, world(a, b)}, nil}, {list, [][]impl.Target{world(sourceOf(""))}, nil},
		{list, [][]impl.Target{world(sourceOf("c"), stepOf(on(0), read...))}, nil}, {list, [][]impl.Target{world(a, stepOf(on(0), put...))}, nil}, {nil, [][]impl.Target{onA}, nil}, {fillers(60), [][]impl.Target{onA, onB}, nil},
		// One world, several, the same one twice, and several that find the same.
		{list, [][]impl.Target{onA}, on(3)}, {list, [][]impl.Target{onB}, on(1)}, {list, [][]impl.Target{onA, onB}, on(1, 3)}, {list, [][]impl.Target{onB, onA}, on(1, 3)}, {list, [][]impl.Target{onA, onA, onA}, on(3)},
		{list, [][]impl.Target{onA, world(b, a, stepOf(on(1), read...)), nil, world(stepOf(nil, put...))}, on(0, 3)}, {list, [][]impl.Target{world(a, b, stepOf(on(0), read...), stepOf(on(1), read...), stepOf(on(2), read...))}, on(1, 3)},
		// A step that failed is found, and so is one without lines and inputs; what stands behind a step that failed finds nothing, not on empty texts, nor on none.
		{list, [][]impl.Target{world(mark, stepOf(on(0), fail...))}, on(2)}, {list, [][]impl.Target{world(stepOf(nil))}, on(4)},
		{list, [][]impl.Target{world(mark, stepOf(on(0), fail...), stepOf(on(1), read...), stepOf(on(1), put...))}, on(2)}, {list, [][]impl.Target{world(mark, stepOf(on(0), fail...), stepOf(on(1), fail...), onB[0], stepOf(on(3), read...))}, on(1, 2)},
		// What stands behind a step that is not kept is found, as it is made all the same.
		{list, [][]impl.Target{world(sourceOf("ac"), stepOf(on(0), first...), stepOf(on(1), read...))}, on(3)}, {list, [][]impl.Target{world(sourceOf("ab"), stepOf(on(0), first...), stepOf(on(1), read...))}, on(3, 5)},
		{list, [][]impl.Target{world(stepOf(nil, linePut("b")), stepOf(on(0), read...))}, on(1)}, {list, [][]impl.Target{world(a, stepOf(on(0)), stepOf(on(1), put...), stepOf(on(1), read...))}, on(6, 7)},
		// As many as there can be, all of which are left, or one: what is kept of the build itself finds nothing more.
		{append(fillers(59), readA), [][]impl.Target{onA}, on(59)}, {append(entries(readA), fillers(59)...), [][]impl.Target{onA, onB}, on(0)},
		{fillers(60), fillerWorlds(60), placesTo(60)}, {fillers(60), fillerWorlds(24), placesTo(24)},
		{chainEntries(12), [][]impl.Target{chain(12)}, on(0, 1, 2, 3, 4, 5, 6, 7, 8, 9, 10)}, {chainEntries(12), [][]impl.Target{chain(4), nil, chain(2)}, on(0, 1, 2)},
	} {
		var must []impl.Entry
		for _, place := range x.left {
			must = append(must, x.list[place])
		}
		checkKept(t, x.list, true)
		checkSwept(t, x.list, x.worlds, must)
		if left := mustLeave(x.list, x.worlds); !sameEntries(left, must) {
			t.Fatalf("it is told otherwise:%s", entriesText(left))
		}
	}
}

// fillerWorlds are worlds that ask for so many entries that no other one asks for.
func fillerWorlds(many int) [][]impl.Target {
	var worlds [][]impl.Target
	var w []impl.Target
	for _, e := range fillers(many) {
		w = append(w, stepOf(nil, e.S...))
		if len(w) == 12 {
			worlds = append(worlds, w)
			w = nil
		}
	}
	return append(worlds, w)
}

// sweeping is what is kept, and worlds to sweep it for.
type sweeping struct {
	list   []impl.Entry
	worlds [][]impl.Target
}

// sweepings are kept of builds of several worlds, some of which are swept for, and of others that are like these.
func sweepings(seed uint64, many int) []sweeping {
	d := &dice{state: seed}
	var all []sweeping
	for range many {
		var worlds [][]impl.Target
		w := rolledWorld(d, d.roll(13))
		list := rolledKept(d, w)
		for range 1 + d.roll(4) {
			list = buildKept(w, list).list
			worlds = append(worlds, w)
			w = changed(d, w)
			if d.roll(3) == 0 {
				w = doubled(d, rolledWorld(d, d.roll(8)))
			}
		}
		worlds = append(worlds, w)
		all = append(all, sweeping{shuffled(d, list), someOf(d, shuffled(d, worlds), 6)})
	}
	return all
}

// P86: what is left is just what is told in another way.
func TestSweepsAreAsTold(t *testing.T) {
	left, gone, both := 0, 0, 0
	for _, x := range sweepings(86, 6000) {
		must := mustLeave(x.list, x.worlds)
		checkSwept(t, x.list, x.worlds, must)
		left += len(must)
		gone += len(x.list) - len(must)
		each := 0
		for _, w := range x.worlds {
			each += len(mustLeave(x.list, [][]impl.Target{w}))
		}
		both += each - len(must)
	}
	if min(left, gone, both) < 5000 {
		t.Errorf("so many are left: %d, and swept away: %d, and found by one more world: %d", left, gone, both)
	}
}

// P86: what is left is what of it a build of one of the worlds from nothing keeps, as that keeps all that it asks for.
func TestLeftIsWhatBuildsKeep(t *testing.T) {
	for _, x := range sweepings(860, 3000) {
		var asked []impl.Entry
		for _, w := range x.worlds {
			asked = append(asked, buildKept(w, nil).list...)
		}
		checkSwept(t, x.list, x.worlds, slices.DeleteFunc(slices.Clone(x.list), func(e impl.Entry) bool { return !isKept(asked, e) }))
	}
}

// P86: with what is left no world that was swept for is built with a run that was not needed before, and it comes to the same; where there was room the same runs are needed; and what is left is right.
func TestSweptIsNotMissed(t *testing.T) {
	same, fewer := 0, 0
	for _, x := range sweepings(861, 6000) {
		left := impl.KeptSweep(x.list, x.worlds)
		checkKept(t, left, true)
		for _, w := range x.worlds {
			was, now := buildKept(w, x.list), buildKept(w, left)
			for _, at := range now.ran {
				if !slices.Contains(was.ran, at) {
					t.Fatalf("%d is run with%s\nand not with%s\nin%s", at, entriesText(left), entriesText(x.list), worldText(w))
				}
			}
			checkBuilt(t, w, now.made)
			hasRoom := len(freshOf(askedOf(w), x.list)) <= 60-len(x.list)
			if hasRoom && !slices.Equal(now.ran, was.ran) {
				t.Fatalf("%v are run, and %v were, in%s", now.ran, was.ran, worldText(w))
			}
			if len(now.ran) < len(was.ran) {
				fewer++
			} else if len(left) < len(x.list) {
				same++
			}
		}
	}
	if same < 5000 || fewer < 50 {
		t.Errorf("as much is run %d times, and less %d times", same, fewer)
	}
}

// P86: each entry that is left is missed if it goes, too, by a world that was swept for: with it gone the world runs a step that it did not run.
func TestLeftIsNeeded(t *testing.T) {
	many := 0
	for _, x := range sweepings(862, 1500) {
		left := impl.KeptSweep(x.list, x.worlds)
		for place := range left {
			less := without(left, place)
			isMissed := slices.ContainsFunc(x.worlds, func(w []impl.Target) bool { return len(buildKept(w, less).ran) > len(buildKept(w, left).ran) })
			if !isMissed {
				t.Fatalf("%d is not missed in%s\nby%s", place, entriesText(left), worldsText(x.worlds))
			}
			many++
		}
	}
	if many < 3000 {
		t.Errorf("so many are left only: %d", many)
	}
}

// P86: swept again nothing goes; the order of the worlds does not count, nor that one is told twice; for more worlds not less is left, and what is left for all is what is left for one of them.
func TestSweepsAmongEachOther(t *testing.T) {
	d := &dice{state: 863}
	for _, x := range sweepings(864, 2500) {
		left := impl.KeptSweep(x.list, x.worlds)
		checkSwept(t, left, x.worlds, left)
		checkSwept(t, x.list, shuffled(d, x.worlds), left)
		checkSwept(t, x.list, slices.Concat(x.worlds, x.worlds, [][]impl.Target{nil}), left)
		checkSwept(t, x.list, nil, nil)
		var each []impl.Entry
		for _, w := range x.worlds {
			each = append(each, impl.KeptSweep(x.list, [][]impl.Target{w})...)
		}
		if len(distinct(each)) != len(left) || slices.ContainsFunc(left, func(e impl.Entry) bool { return !isKept(each, e) }) {
			t.Fatalf("for all is left%s\nand for each%s", entriesText(left), entriesText(each))
		}
		more := slices.Concat(x.worlds, [][]impl.Target{rolledWorld(d, 12)})
		all := impl.KeptSweep(x.list, more)
		if slices.ContainsFunc(left, func(e impl.Entry) bool { return !isKept(all, e) }) {
			t.Fatalf("for more worlds is left%s\nand not%s", entriesText(all), entriesText(left))
		}
	}
}

// P86: what a build kept is left, if it is swept for its world, and nothing of it if its steps ask for nothing of it any more.
func TestBuiltAndSwept(t *testing.T) {
	for _, w := range worldsToBuild() {
		b := buildKept(w, fillers(20))
		checkSwept(t, b.list, [][]impl.Target{w}, b.list[20:])
		checkSwept(t, b.list, append(fillerWorlds(20), w), b.list)
		checkSwept(t, b.list, fillerWorlds(20), fillers(20))
		checkSwept(t, b.list, nil, nil)
	}
}

// P14, P15 and P84 to P86: what is handed in is left as it was, and what is handed out shares no memory with it, nor one answer with another.
func TestKeptSharesNothing(t *testing.T) {
	list := rolledKeepings(1484, 400)
	for _, x := range knownKeepings() {
		list = append(list, x.keeping)
	}
	for _, x := range rolledKeepings(1485, 100) {
		list = append(list, keeping{x.w, buildKept(x.w, nil).list})
	}
	for _, none := range entriesNotRight()[:20] {
		list = append(list, keeping{chain(3), append(chainEntries(3), none)})
	}
	list = append(list, keeping{chain(13), chainEntries(3)}, keeping{chain(3), fillers(61)})
	for _, old := range list {
		w, kept, worlds := handed(old.w), handed(old.list), handed([][]impl.Target{old.w, nil, chain(2), old.w})
		was := wholeText(w, kept, worlds)
		impl.KeptOk(kept)
		var answers []any
		for range 2 {
			made, behind, ran := impl.KeptBuild(w, kept)
			answers = append(answers, made, behind, ran, impl.KeptSweep(kept, worlds), impl.KeptSweep(kept, worlds[1:2]))
		}
		for _, e := range kept {
			impl.KeptFind(kept, e.S, e.Ins)
		}
		checkMemory(t, "what is kept", was, []any{w, kept, worlds}, answers)
	}
}
