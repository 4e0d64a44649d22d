package tests

import (
	"fmt"
	"math"
	"slices"
	"strings"
	"testing"

	"loop.example/packageworld/impl"
)

func sourceOf(text string) impl.Target {
	return impl.Target{Text: text}
}

func stepOf(ins []int, lines ...impl.Line) impl.Target {
	return impl.Target{Makes: true, S: lines, Ins: ins}
}

// on are the places of inputs.
func on(ins ...int) []int {
	return ins
}

func world(targets ...impl.Target) []impl.Target {
	return targets
}

func madeOf(text string) impl.Made {
	return impl.Made{Ok: true, Text: text}
}

func notMade() impl.Made {
	return impl.Made{}
}

// sameTarget, unlike the texts of both, tells bytes that are told alike.
func sameTarget(a impl.Target, b impl.Target) bool {
	return a.Makes == b.Makes && a.Text == b.Text && slices.Equal(a.S, b.S) && slices.Equal(a.Ins, b.Ins)
}

func sameWorld(a []impl.Target, b []impl.Target) bool {
	return slices.EqualFunc(a, b, sameTarget)
}

// worldText tells a world with all bytes that are no letters, one target a line.
func worldText(w []impl.Target) string {
	text := ""
	for at, x := range w {
		text += fmt.Sprintf("\n%d: %v %q on %v by %v", at, x.Makes, x.Text, x.Ins, x.S)
	}
	return text
}

func checkWorld(t *testing.T, w []impl.Target, must bool) {
	t.Helper()
	if impl.WorldOk(w) != must {
		t.Fatalf("WorldOk is %v of%s", !must, worldText(w))
	}
}

func checkBuilt(t *testing.T, w []impl.Target, must []impl.Made) {
	t.Helper()
	if list := impl.Build(w); !slices.Equal(list, must) {
		t.Fatalf("Build comes to %v, not %v, of%s", list, must, worldText(w))
	}
}

func checkNeeded(t *testing.T, w []impl.Target, k int, must []int) {
	t.Helper()
	if list := impl.WorldNeeds(w, k); !slices.Equal(list, must) {
		t.Fatalf("WorldNeeds of %d are %v, not %v, in%s", k, list, must, worldText(w))
	}
}

func checkPart(t *testing.T, w []impl.Target, k int, must []impl.Target) {
	t.Helper()
	if part := impl.WorldPart(w, k); !sameWorld(part, must) {
		t.Fatalf("WorldPart of %d is%s\nnot%s\nof%s", k, worldText(part), worldText(must), worldText(w))
	}
}

// checkNoWorld holds that nothing is told of what is no world, whatever is asked for.
func checkNoWorld(t *testing.T, w []impl.Target) {
	t.Helper()
	checkWorld(t, w, false)
	checkBuilt(t, w, nil)
	for _, k := range append(edgePlaces(), len(w)-1) {
		checkNeeded(t, w, k, nil)
		checkPart(t, w, k, nil)
	}
}

// edgePlaces are places of targets, some of which no world has.
func edgePlaces() []int {
	list := []int{math.MinInt, -13, -2, -1, 13, 14, 100, math.MaxInt}
	for k := 0; k <= 12; k++ {
		list = append(list, k)
	}
	return list
}

// mustMade is what the document has a target come to, if it is told what its inputs came to.
func mustMade(x impl.Target, ins []impl.Made) impl.Made {
	if !x.Makes {
		return madeOf(x.Text)
	}
	var texts []string
	for _, m := range ins {
		if !m.Ok {
			return notMade()
		}
		texts = append(texts, m.Text)
	}
	ran := mustRan(roomOf(x.S, texts...))
	if ran.Code != 0 {
		return notMade()
	}
	return madeOf(ran.Out)
}

// mustBuild builds without impl and not in order: round by round what can be built by then, from the last one on.
func mustBuild(w []impl.Target) []impl.Made {
	known := make(map[int]impl.Made)
	for len(known) < len(w) {
		for k := len(w) - 1; k >= 0; k-- {
			var ins []impl.Made
			for _, in := range w[k].Ins {
				if m, ok := known[in]; ok {
					ins = append(ins, m)
				}
			}
			if len(ins) == len(w[k].Ins) {
				known[k] = mustMade(w[k], ins)
			}
		}
	}
	var list []impl.Made
	for k := range w {
		list = append(list, known[k])
	}
	return list
}

// leadsTo reports whether a target is needed by another one: on from that target it is looked which ones it comes to.
func leadsTo(w []impl.Target, from int, k int) bool {
	came := map[int]bool{from: true}
	for at := from + 1; at <= k; at++ {
		for _, in := range w[at].Ins {
			came[at] = came[at] || came[in]
		}
	}
	return came[k]
}

// mustNeed is what the document has a target need.
func mustNeed(w []impl.Target, k int) []int {
	var list []int
	for at := range w {
		if leadsTo(w, at, k) {
			list = append(list, at)
		}
	}
	return list
}

// mustPart is what the document has as the world of what a target needs.
func mustPart(w []impl.Target, k int) []impl.Target {
	needed := mustNeed(w, k)
	var part []impl.Target
	for _, at := range needed {
		var ins []int
		for _, in := range w[at].Ins {
			ins = append(ins, slices.Index(needed, in))
		}
		part = append(part, impl.Target{Makes: w[at].Makes, Text: w[at].Text, S: w[at].S, Ins: ins})
	}
	return part
}

// checkAsTold holds all that is told of a world against what is told of it in another way.
func checkAsTold(t *testing.T, w []impl.Target) []impl.Made {
	t.Helper()
	must := mustBuild(w)
	checkWorld(t, w, true)
	checkBuilt(t, w, must)
	for k := range w {
		checkNeeded(t, w, k, mustNeed(w, k))
		checkPart(t, w, k, mustPart(w, k))
	}
	return must
}

// rolledInputs are places before another one, at most as many as a script has.
func rolledInputs(d *dice, at int) []int {
	var ins []int
	for range min(d.roll(10), 5) {
		if at > 0 {
			ins = append(ins, d.roll(at))
		}
	}
	slices.Sort(ins)
	return slices.Compact(ins)
}

// rolledTarget is a source or a step that can stand at a place; more of the first ones are sources, and more of the lines read.
func rolledTarget(d *dice, at int) impl.Target {
	if d.roll(3) == 0 || at < d.roll(4) {
		return sourceOf(rolledThing(d))
	}
	ins := rolledInputs(d, at)
	var s []impl.Line
	for range d.roll(6) {
		switch kind := d.roll(6); {
		case len(ins) > 0 && kind < 3:
			s = append(s, lineRead(d.roll(len(ins))))
		case len(ins) > 0 && kind == 3:
			s = append(s, lineFail(d.roll(len(ins))))
		default:
			s = append(s, rolledLine(d, len(ins)))
		}
	}
	return stepOf(ins, s...)
}

func rolledWorld(d *dice, many int) []impl.Target {
	var w []impl.Target
	for at := range many {
		w = append(w, rolledTarget(d, at))
	}
	return w
}

func rolledWorlds(seed uint64, many int) [][]impl.Target {
	d := &dice{state: seed}
	var list [][]impl.Target
	for range many {
		list = append(list, rolledWorld(d, d.roll(13)))
	}
	return list
}

// rowsBefore are all rows of places before another one, each once, in ascending order.
func rowsBefore(at int) [][]int {
	list := [][]int{nil}
	for place := range at {
		for _, row := range list {
			list = append(list, with(row, len(row), place))
		}
	}
	return list
}

// inputRows are all rows of inputs that a step at a place can have.
func inputRows(at int) [][]int {
	return slices.DeleteFunc(rowsBefore(at), func(ins []int) bool { return len(ins) > 5 })
}

// smallTargets are targets that can stand at a place: of each kind some, on all rows of inputs.
func smallTargets(at int) []impl.Target {
	list := world(sourceOf(""), sourceOf("!"), sourceOf("ab"))
	for _, ins := range inputRows(at) {
		list = append(list, stepOf(ins), stepOf(ins, linePut("c")))
		if last := len(ins) - 1; last >= 0 {
			list = append(list, stepOf(ins, lineFail(last), lineRead(0)), stepOf(ins, lineSkip(0, 1), lineRead(last), lineTurn()))
		}
	}
	return list
}

// smallWorlds are all worlds of at most so many such targets.
func smallWorlds(most int) [][]impl.Target {
	list := [][]impl.Target{nil}
	for i := 0; i < len(list); i++ {
		if at := len(list[i]); at < most {
			for _, x := range smallTargets(at) {
				list = append(list, with(list[i], at, x))
			}
		}
	}
	return list
}

// chain is a world in which each target but the first one is a step on the one before it, which puts a letter behind it.
func chain(many int) []impl.Target {
	w := world(sourceOf("a"))
	for at := 1; at < many; at++ {
		w = append(w, stepOf(on(at-1), lineRead(0), linePut("z")))
	}
	return w
}

// knownWorld is a world of which was found by hand what its targets come to, and what the last one needs.
type knownWorld struct {
	w      []impl.Target
	must   []impl.Made
	needed []int
}

// knownWorlds are worlds at the edges that the document names.
func knownWorlds() []knownWorld {
	most := bytesOf(40)
	a, b := sourceOf("a"), sourceOf("b")
	return []knownWorld{
		// No targets at all, and one.
		{nil, nil, nil},
		{world(), nil, nil},
		{world(sourceOf("")), []impl.Made{madeOf("")}, on(0)},
		{world(sourceOf("!")), []impl.Made{madeOf("!")}, on(0)},
		{world(sourceOf(most)), []impl.Made{madeOf(most)}, on(0)},
		{world(sourceOf("\x00\xff")), []impl.Made{madeOf("\x00\xff")}, on(0)},
		{world(impl.Target{Text: "a", S: []impl.Line{}, Ins: []int{}}), []impl.Made{madeOf("a")}, on(0)},
		// Sources alone, each of which nothing needs, and the same text twice.
		{world(a, b, sourceOf("")), []impl.Made{madeOf("a"), madeOf("b"), madeOf("")}, on(2)},
		{world(a, a), []impl.Made{madeOf("a"), madeOf("a")}, on(1)},
		{slices.Repeat(world(a), 12), slices.Repeat([]impl.Made{madeOf("a")}, 12), on(11)},
		// Steps without inputs, without lines, and without both; they are made, as nothing ends them.
		{world(stepOf(nil)), []impl.Made{madeOf("")}, on(0)},
		{world(stepOf(on(), linePut("xy"), lineTurn())), []impl.Made{madeOf("yx")}, on(0)},
		{slices.Repeat(world(stepOf(nil, linePut("x"))), 12), slices.Repeat([]impl.Made{madeOf("x")}, 12), on(11)},
		{world(a, stepOf(on(0))), []impl.Made{madeOf("a"), madeOf("")}, on(0, 1)},
		{world(a, b, stepOf(nil, linePut("x"))), []impl.Made{madeOf("a"), madeOf("b"), madeOf("x")}, on(2)},
		{world(stepOf(nil, linePut("x")), stepOf(on(0), lineRead(0), lineRead(0))), []impl.Made{madeOf("x"), madeOf("xx")}, on(0, 1)},
		// A script that reads no input, or not all: it needs them all the same.
		{world(a, b, stepOf(on(0, 1), linePut("x"))), []impl.Made{madeOf("a"), madeOf("b"), madeOf("x")}, on(0, 1, 2)},
		{world(a, b, stepOf(on(0, 1), lineRead(1))), []impl.Made{madeOf("a"), madeOf("b"), madeOf("b")}, on(0, 1, 2)},
		{world(a, b, stepOf(on(1), lineRead(0))), []impl.Made{madeOf("a"), madeOf("b"), madeOf("b")}, on(1, 2)},
		// Inputs as they are in the row of the step, and not in the world.
		{world(a, b, sourceOf("c"), stepOf(on(0, 2), lineRead(1), lineRead(0))), []impl.Made{madeOf("a"), madeOf("b"), madeOf("c"), madeOf("ca")}, on(0, 2, 3)},
		{world(a, b, sourceOf("c"), stepOf(on(1, 2), lineRead(0), linePut("-"), lineRead(1))), []impl.Made{madeOf("a"), madeOf("b"), madeOf("c"), madeOf("b-c")}, on(1, 2, 3)},
		{world(sourceOf(""), b, stepOf(on(0, 1), lineSkip(0, 1), lineRead(1), linePut("x"))), []impl.Made{madeOf(""), madeOf("b"), madeOf("x")}, on(0, 1, 2)},
		// Steps that end with RunFail and with RunLong, and texts of just as many bytes as there can be.
		{world(sourceOf("!"), stepOf(on(0), lineRead(0), lineFail(0))), []impl.Made{madeOf("!"), notMade()}, on(0, 1)},
		{world(sourceOf("x!"), stepOf(on(0), lineRead(0), lineFail(0))), []impl.Made{madeOf("x!"), madeOf("x!")}, on(0, 1)},
		{world(stepOf(nil, linePut("!x")), stepOf(on(0), linePut("y"), lineFail(0))), []impl.Made{madeOf("!x"), notMade()}, on(0, 1)},
		{world(sourceOf(most), stepOf(on(0), lineRead(0))), []impl.Made{madeOf(most), madeOf(most)}, on(0, 1)},
		{world(sourceOf(most), stepOf(on(0), lineRead(0), linePut("z"))), []impl.Made{madeOf(most), notMade()}, on(0, 1)},
		{world(sourceOf(most), stepOf(on(0), lineRead(0), linePut("z"), lineKeep(1))), []impl.Made{madeOf(most), notMade()}, on(0, 1)},
		{world(sourceOf(bytesOf(39)), stepOf(on(0), lineRead(0), linePut("z"))), []impl.Made{madeOf(bytesOf(39)), madeOf(bytesOf(39) + "z")}, on(0, 1)},
		// An input that was not made: what reads it is not made, nor what does not read it, nor what needs it further back; what does not need it is.
		{world(sourceOf("!"), stepOf(on(0), lineFail(0)), stepOf(on(1), lineRead(0))), []impl.Made{madeOf("!"), notMade(), notMade()}, on(0, 1, 2)},
		{world(sourceOf("!"), stepOf(on(0), lineFail(0)), stepOf(on(1), linePut("x"))), []impl.Made{madeOf("!"), notMade(), notMade()}, on(0, 1, 2)},
		{world(sourceOf("!"), stepOf(on(0), lineFail(0)), stepOf(on(1))), []impl.Made{madeOf("!"), notMade(), notMade()}, on(0, 1, 2)},
		{world(sourceOf("!"), stepOf(on(0), lineFail(0)), stepOf(on(0, 1), lineRead(0))), []impl.Made{madeOf("!"), notMade(), notMade()}, on(0, 1, 2)},
		{world(sourceOf("!"), stepOf(on(0), lineFail(0)), stepOf(on(0, 1), lineSkip(0, 1), linePut("x"))), []impl.Made{madeOf("!"), notMade(), notMade()}, on(0, 1, 2)},
		{world(sourceOf("!"), stepOf(on(0), lineFail(0)), stepOf(on(1), linePut("x")), stepOf(on(2), linePut("y"))), []impl.Made{madeOf("!"), notMade(), notMade(), notMade()}, on(0, 1, 2, 3)},
		{world(sourceOf("!"), stepOf(on(0), lineFail(0)), a, stepOf(on(1, 2), lineRead(1)), stepOf(on(2, 3), lineRead(0))), []impl.Made{madeOf("!"), notMade(), madeOf("a"), notMade(), notMade()}, on(0, 1, 2, 3, 4)},
		{world(sourceOf("!"), stepOf(on(0), lineFail(0)), stepOf(on(0), lineRead(0))), []impl.Made{madeOf("!"), notMade(), madeOf("!")}, on(0, 2)},
		{world(sourceOf(most), stepOf(on(0), lineRead(0), lineRead(0)), stepOf(on(1), lineSkip(0, 1), linePut("x"))), []impl.Made{madeOf(most), notMade(), notMade()}, on(0, 1, 2)},
		// What was made empty was made.
		{world(stepOf(nil), stepOf(on(0), lineSkip(0, 1), linePut("x"), linePut("y"))), []impl.Made{madeOf(""), madeOf("y")}, on(0, 1)},
		{world(a, stepOf(on(0), lineRead(0), lineKeep(0)), stepOf(on(1), lineFail(0), linePut("x"))), []impl.Made{madeOf("a"), madeOf(""), madeOf("x")}, on(0, 1, 2)},
		// A target that several steps need, the one of them that needs the others, too, and a source that nothing needs.
		{world(a, b, stepOf(on(0), lineRead(0), linePut("1")), stepOf(on(0), lineRead(0), linePut("2")), stepOf(on(2, 3), lineRead(1), lineRead(0))), []impl.Made{madeOf("a"), madeOf("b"), madeOf("a1"), madeOf("a2"), madeOf("a2a1")}, on(0, 2, 3, 4)},
		{world(a, b, stepOf(on(0), lineRead(0), lineTurn(), linePut("1")), stepOf(on(0, 2), lineRead(0), lineRead(1))), []impl.Made{madeOf("a"), madeOf("b"), madeOf("a1"), madeOf("aa1")}, on(0, 2, 3)},
		{world(a, stepOf(on(0), lineRead(0)), stepOf(on(0), lineRead(0)), b), []impl.Made{madeOf("a"), madeOf("a"), madeOf("a"), madeOf("b")}, on(3)},
		// As many targets as there can be, in which the last one needs all others: by way of each other, and of few.
		{chain(12), chainMade(12), on(0, 1, 2, 3, 4, 5, 6, 7, 8, 9, 10, 11)},
		{wideWorld(), append(slices.Repeat([]impl.Made{madeOf("a")}, 8), madeOf("aaaaa"), madeOf("aaaaaaaaa"), madeOf("x"), madeOf("axaaaaaaaaaaaaaa")), on(0, 1, 2, 3, 4, 5, 6, 7, 8, 9, 10, 11)},
	}
}

func chainMade(many int) []impl.Made {
	var list []impl.Made
	for at := range many {
		list = append(list, madeOf("a"+strings.Repeat("z", at)))
	}
	return list
}

// wideWorld is a world in which each step has as many inputs as it can have, or none, and the last one needs all.
func wideWorld() []impl.Target {
	w := slices.Repeat(world(sourceOf("a")), 8)
	all := script(lineRead(0), lineRead(1), lineRead(2), lineRead(3), lineRead(4))
	return append(w, stepOf(on(0, 1, 2, 3, 4), all...), stepOf(on(4, 5, 6, 7, 8), all...), stepOf(nil, linePut("x")), stepOf(on(0, 7, 8, 9, 10), lineRead(0), lineRead(4), lineRead(2), lineRead(3)))
}

// P12, P81, P82 and P83: worlds that were told by hand.
func TestKnownWorlds(t *testing.T) {
	for _, x := range knownWorlds() {
		checkBuilt(t, x.w, x.must)
		checkAsTold(t, x.w)
		if last := len(x.w) - 1; last >= 0 {
			checkNeeded(t, x.w, last, x.needed)
			checkNeeded(t, x.w, 0, on(0))
		}
	}
}

// P12: the world of what a target needs is told with its inputs where they are in it.
func TestKnownParts(t *testing.T) {
	a, b, c := sourceOf("a"), sourceOf("b"), sourceOf("c")
	ab := stepOf(on(0, 1), lineRead(0), lineRead(1))
	w := world(a, b, c, stepOf(on(0, 2), lineRead(1)), stepOf(on(1), lineTurn()), stepOf(on(2, 4), lineFail(1)), stepOf(nil, linePut("x")), ab)
	for k, must := range [][]impl.Target{
		world(a), world(b), world(c),
		world(a, c, stepOf(on(0, 1), lineRead(1))),
		world(b, stepOf(on(0), lineTurn())),
		world(b, c, stepOf(on(0), lineTurn()), stepOf(on(1, 2), lineFail(1))),
		world(stepOf(nil, linePut("x"))),
		world(a, b, ab),
	} {
		checkPart(t, w, k, must)
	}
	checkPart(t, chain(12), 11, chain(12))
	checkPart(t, chain(12), 0, chain(1))
	checkPart(t, wideWorld(), 11, wideWorld())
	for k := range 12 {
		checkPart(t, chain(12), k, chain(k+1))
	}
}

// P12, P81 to P83: all that is told of worlds is just what is told of them in another way, of all small worlds and of many large ones.
func TestWorldsAreAsTold(t *testing.T) {
	made, ended, behind := 0, 0, 0
	for _, w := range append(smallWorlds(3), rolledWorlds(10, 30000)...) {
		list := checkAsTold(t, w)
		for k, m := range list {
			isBehind := slices.ContainsFunc(w[k].Ins, func(in int) bool { return !list[in].Ok })
			switch {
			case m.Ok && w[k].Makes:
				made++
			case isBehind:
				behind++
			case !m.Ok:
				ended++
			}
		}
	}
	if min(made, ended, behind) < 5000 {
		t.Errorf("steps are made %d times, end otherwise %d times, and are behind such %d times", made, ended, behind)
	}
}

// The number that chapter 10 names.
func TestWorldNumber(t *testing.T) {
	if impl.WorldMost != 12 {
		t.Errorf("WorldMost is %d", impl.WorldMost)
	}
}

// worldsToBuild are worlds of which it is asked what they hang on.
func worldsToBuild() [][]impl.Target {
	list := append(smallWorlds(3), rolledWorlds(12, 6000)...)
	for _, x := range knownWorlds() {
		list = append(list, x.w)
	}
	return list
}

// P12: in the world of what it needs a target comes to the same, as the last one there, and so does all that it needs.
func TestTargetsOfParts(t *testing.T) {
	made, failed := 0, 0
	for _, w := range worldsToBuild() {
		all := impl.Build(w)
		for k := range w {
			needed, part := impl.WorldNeeds(w, k), impl.WorldPart(w, k)
			var must []impl.Made
			for _, at := range needed {
				must = append(must, all[at])
			}
			checkWorld(t, part, true)
			checkBuilt(t, part, must)
			if len(part) == 0 || must[len(must)-1] != all[k] {
				t.Fatalf("%d is not the last of%s\nof%s", k, worldText(part), worldText(w))
			}
			switch {
			case len(part) == len(w):
			case !all[k].Ok:
				failed++
			case w[k].Makes:
				made++
			}
		}
	}
	if min(made, failed) < 3000 {
		t.Errorf("in smaller parts a step is made %d times, and not made %d times", made, failed)
	}
}

// otherUnneeded is a world in which all that a target does not need is another target, as far as that can be.
func otherUnneeded(d *dice, w []impl.Target, needed []int) []impl.Target {
	other := slices.Clone(w)
	for at := range w {
		if !slices.Contains(needed, at) {
			other[at] = rolledTarget(d, at)
		}
	}
	return other
}

// P13: whatever all that a target does not need is instead, it comes to the same, and so does all that it needs.
func TestOthersAreOther(t *testing.T) {
	many, changed := 0, 0
	d := &dice{state: 13}
	for _, w := range worldsToBuild() {
		all := impl.Build(w)
		for k := range w {
			needed := impl.WorldNeeds(w, k)
			other := otherUnneeded(d, w, needed)
			list := impl.Build(other)
			for _, at := range needed {
				if list[at] != all[at] {
					t.Fatalf("%d, which %d needs, comes to %v, and not %v, in%s\nlike%s", at, k, list[at], all[at], worldText(other), worldText(w))
				}
			}
			checkNeeded(t, other, k, needed)
			checkPart(t, other, k, impl.WorldPart(w, k))
			many++
			if !slices.Equal(list, all) {
				changed++
			}
		}
	}
	if changed < 10000 {
		t.Errorf("something else comes to something else %d of %d times only", changed, many)
	}
}

// placed are targets of which the inputs from a place on are so many places further behind.
func placed(w []impl.Target, from int, by int) []impl.Target {
	var list []impl.Target
	for _, x := range w {
		ins := slices.Clone(x.Ins)
		for i, in := range ins {
			if in >= from {
				ins[i] = in + by
			}
		}
		list = append(list, impl.Target{Makes: x.Makes, Text: x.Text, S: x.S, Ins: ins})
	}
	return list
}

// targetPut is a world with one more target at a place, which no other one needs.
func targetPut(w []impl.Target, at int, x impl.Target) []impl.Target {
	return with(placed(w, at, 1), at, x)
}

// targetGone is a world without one target, which no other one needs.
func targetGone(w []impl.Target, at int) []impl.Target {
	return without(placed(w, at, -1), at)
}

// P13: with one target more, wherever it stands, and without one that no other one needs, all others come to the same.
func TestOneTargetMoreOrLess(t *testing.T) {
	more, less := 0, 0
	d := &dice{state: 130}
	for _, w := range worldsToBuild() {
		all := impl.Build(w)
		for at := range w {
			if len(w) < 12 {
				list := impl.Build(targetPut(w, at, rolledTarget(d, at)))
				if len(list) != len(w)+1 || !slices.Equal(without(list, at), all) {
					t.Fatalf("with one more at %d it comes to %v, not %v, of%s", at, list, all, worldText(w))
				}
				more++
			}
			if !slices.ContainsFunc(w, func(x impl.Target) bool { return slices.Contains(x.Ins, at) }) {
				checkBuilt(t, targetGone(w, at), without(all, at))
				less++
			}
		}
	}
	if min(more, less) < 10000 {
		t.Errorf("there is one more %d times, and one less %d times", more, less)
	}
}

// laid are two worlds as one, in which the targets of both stand in order, and among each other as they are rolled; it is told of each target whether it is of the second one.
func laid(d *dice, a []impl.Target, b []impl.Target) ([]impl.Target, []bool) {
	var w []impl.Target
	var ofSecond []bool
	var places [2][]int
	worlds := [2][]impl.Target{a, b}
	for len(w) < len(a)+len(b) {
		which := d.roll(2)
		at := len(places[which])
		if at == len(worlds[which]) {
			continue
		}
		x := worlds[which][at]
		var ins []int
		for _, in := range x.Ins {
			ins = append(ins, places[which][in])
		}
		places[which] = append(places[which], len(w))
		w = append(w, impl.Target{Makes: x.Makes, Text: x.Text, S: x.S, Ins: ins})
		ofSecond = append(ofSecond, which == 1)
	}
	return w, ofSecond
}

// P12 and P13: two worlds that are laid among each other come to what each of them comes to.
func TestWorldsAmongEachOther(t *testing.T) {
	d := &dice{state: 131}
	for range 20000 {
		a, b := rolledWorld(d, d.roll(7)), rolledWorld(d, d.roll(7))
		w, ofSecond := laid(d, a, b)
		var first, second []impl.Made
		for at, m := range impl.Build(w) {
			if ofSecond[at] {
				second = append(second, m)
			} else {
				first = append(first, m)
			}
		}
		checkBuilt(t, a, first)
		checkBuilt(t, b, second)
		checkWorld(t, w, true)
	}
}

// P13: what is needed counts, however far back: with another source at its beginning all of a chain comes to something else.
func TestWhatIsNeededCounts(t *testing.T) {
	for many := 2; many <= 12; many++ {
		w := chain(many)
		w[0] = sourceOf("b")
		list := impl.Build(w)
		for at, m := range chainMade(many) {
			if list[at] == m || len(list[at].Text) != len(m.Text) {
				t.Fatalf("%d comes to %v and %v", at, list[at], m)
			}
		}
		w[0] = sourceOf(bytesOf(40))
		for at, m := range impl.Build(w) {
			if m.Ok != (at == 0) {
				t.Fatalf("%d comes to %v in%s", at, m, worldText(w))
			}
		}
	}
}

// P81: nothing is a world, and each beginning of a world is one, which comes to the beginning of what that comes to, and in which as much is needed.
func TestBeginningsOfWorlds(t *testing.T) {
	checkWorld(t, nil, true)
	checkWorld(t, world(), true)
	checkBuilt(t, nil, nil)
	for _, w := range worldsToBuild() {
		all := impl.Build(w)
		for many := 0; many <= len(w); many++ {
			checkWorld(t, w[:many], true)
			checkBuilt(t, w[:many], all[:many])
		}
		for k := range w {
			checkNeeded(t, w[:k+1], k, impl.WorldNeeds(w, k))
			checkPart(t, w[:k+1], k, impl.WorldPart(w, k))
		}
	}
}

// P81: as many targets as there can be are a world, of each kind, and one more is too many.
func TestLengthsOfWorlds(t *testing.T) {
	for _, x := range world(sourceOf(""), sourceOf("a"), sourceOf(bytesOf(40)), stepOf(nil), stepOf(nil, linePut("x"))) {
		for many := range 13 {
			checkWorld(t, slices.Repeat(world(x), many), true)
		}
		for _, many := range []int{13, 14, 24, 1000} {
			checkNoWorld(t, slices.Repeat(world(x), many))
		}
	}
	checkWorld(t, chain(12), true)
	checkNoWorld(t, chain(13))
	for _, w := range rolledWorlds(81, 2000) {
		full := append(slices.Clone(w), slices.Repeat(world(sourceOf("a")), 12-len(w))...)
		checkWorld(t, full, true)
		checkNoWorld(t, append(full, sourceOf("")))
	}
}

// P81: a target at a place is one of a world just if it is a source without script and inputs, or a step without text, with inputs that can be and a script for as many.
func TestTargetsOfWorlds(t *testing.T) {
	scripts := []struct {
		s   []impl.Line
		ins int
	}{
		{nil, 0}, {script(linePut("x")), 0}, {script(lineRead(0)), 1}, {script(lineFail(1)), 2}, {script(lineSkip(2, 1)), 3}, {script(lineTurn(), lineRead(4)), 5},
		// One for no inputs at all.
		{script(lineKeep(41)), 6},
	}
	inputs := append(rows([]int{-1, 0, 1, 2, 3, 4}, 3), on(0, 1, 2, 3), on(0, 1, 2, 3, 4), on(0, 1, 2, 4, 3), on(0, 1, 2, 3, 4, 5))
	steps := 0
	for at := range 7 {
		before := slices.Repeat(world(sourceOf("a")), at)
		for _, ins := range inputs {
			isRow := slices.ContainsFunc(inputRows(at), func(row []int) bool { return slices.Equal(row, ins) })
			for _, x := range scripts {
				for _, text := range []string{"", "a", bytesOf(40), bytesOf(41)} {
					isStep := isRow && x.ins <= len(ins) && text == ""
					checkWorld(t, with(before, at, impl.Target{Makes: true, Text: text, S: x.s, Ins: ins}), isStep)
					isSource := len(ins) == 0 && len(x.s) == 0 && len(text) <= 40
					checkWorld(t, with(before, at, impl.Target{Text: text, S: x.s, Ins: ins}), isSource)
					if isStep {
						steps++
					}
				}
			}
		}
	}
	if steps < 200 {
		t.Errorf("steps are fine %d times only", steps)
	}
}

// P81: each row of inputs that can be is one of a step at each place, up to as many as there can be.
func TestAllRowsOfInputs(t *testing.T) {
	for at := range 12 {
		before := slices.Repeat(world(sourceOf("a")), at)
		for _, ins := range rowsBefore(at) {
			checkWorld(t, with(before, at, stepOf(ins)), len(ins) <= 5)
		}
	}
}

// notTargets are targets that are none at a place, one thing being wrong with each.
func notTargets(at int) []impl.Target {
	list := world(
		// A source with a script, or with inputs.
		impl.Target{Text: "a", S: script(linePut("x"))}, impl.Target{S: script(lineTurn())}, impl.Target{S: script(lineRead(0))},
		impl.Target{Text: "a", Ins: on(0)}, impl.Target{Ins: on(at)}, impl.Target{Ins: on(0, 1)}, impl.Target{S: script(lineRead(0)), Ins: on(0)},
		// A step with a text.
		impl.Target{Makes: true, Text: "a"}, impl.Target{Makes: true, Text: "\x00"}, impl.Target{Makes: true, Text: bytesOf(40), S: script(linePut("x"))},
		// An input that is the step itself, behind it, or below 0.
		stepOf(on(at)), stepOf(on(at+1)), stepOf(on(at), lineRead(0)), stepOf(on(12)), stepOf(on(math.MaxInt)), stepOf(on(-1)), stepOf(on(-1), lineRead(0)), stepOf(on(math.MinInt)),
		// A script that is none for no inputs.
		stepOf(nil, lineRead(0)), stepOf(nil, lineFail(0)), stepOf(nil, lineSkip(0, 1)), stepOf(nil, lineRead(-1)), stepOf(nil, slices.Repeat(script(lineTurn()), 11)...),
	)
	for _, text := range longThings() {
		list = append(list, sourceOf(text))
	}
	for _, x := range notLines() {
		list = append(list, stepOf(nil, x), stepOf(nil, linePut("x"), x))
	}
	if at > 0 {
		// One that is there twice, or one that is none behind one that is; a script that is none for one.
		list = append(list, impl.Target{Makes: true, Text: "a", Ins: on(at - 1)}, stepOf(on(at-1, at-1)), stepOf(on(0, 0), lineRead(0)), stepOf(on(at-1, at)), stepOf(on(at-1, at+1), lineRead(1)), stepOf(on(-1, at-1)), stepOf(on(at-1, -1)), stepOf(on(at-1), lineRead(1)), stepOf(on(at-1), linePut("x"), lineFail(1)))
	}
	if at > 1 {
		// Not in ascending order.
		list = append(list, stepOf(on(1, 0)), stepOf(on(at-1, 0), lineRead(0)), stepOf(on(0, 1, 0)), stepOf(on(0, at-1, at-1)), stepOf(on(0, 1), lineSkip(2, 1)))
	}
	if at > 5 {
		// More than there can be, and a script that is none for all that there can be.
		list = append(list, stepOf(on(0, 1, 2, 3, 4, 5)), stepOf(on(0, 1, 2, 3, 4, 5), lineRead(0)), stepOf(on(0, 1, 2, 3, 4), lineRead(5)), stepOf(on(0, 1, 2, 3, at-1), lineRead(5)))
	}
	return list
}

// P12, P81 to P83: with one target that is none, wherever it stands, and whether it is needed or not, it is no world, and nothing is told of it.
func TestNoWorlds(t *testing.T) {
	for _, w := range append(rolledWorlds(181, 12), chain(11), world(sourceOf("a"), stepOf(on(0), lineRead(0)))) {
		if len(w) == 12 {
			continue
		}
		for at := 0; at <= len(w); at++ {
			checkWorld(t, targetPut(w, at, sourceOf("")), true)
			for _, none := range notTargets(at) {
				checkNoWorld(t, targetPut(w, at, none))
			}
		}
	}
}

// P12 and P83: nothing is told of a target that there is not.
func TestNoTargets(t *testing.T) {
	for _, w := range worldsToBuild() {
		for _, k := range append(edgePlaces(), len(w)) {
			if k < 0 || k >= len(w) {
				checkNeeded(t, w, k, nil)
				checkPart(t, w, k, nil)
			}
		}
	}
}

// P82: each source comes to its text, and each step to what its script makes in a room in which its inputs are open; it is not made just if that ends otherwise, or an input was not made.
func TestTargetsComeTo(t *testing.T) {
	codes := make([]int, 5)
	for _, w := range append(rolledWorlds(82, 15000), worldsToBuild()...) {
		list := impl.Build(w)
		if len(list) != len(w) {
			t.Fatalf("%v is told of%s", list, worldText(w))
		}
		for k, x := range w {
			must := madeOf(x.Text)
			if x.Makes {
				must = notMade()
				var r room
				for _, in := range x.Ins {
					if list[in].Ok {
						r.ins = append(r.ins, list[in].Text)
					}
				}
				if len(r.ins) == len(x.Ins) {
					ran := run(roomOf(x.S, r.ins...))
					must = impl.Made{Ok: ran.Code == impl.RunFine, Text: ran.Out}
					codes[ran.Code]++
				}
			}
			if list[k] != must {
				t.Fatalf("%d comes to %v, not %v, in%s", k, list[k], must, worldText(w))
			}
			if !list[k].Ok && list[k].Text != "" || len(list[k].Text) > 40 {
				t.Fatalf("%d comes to %v in%s", k, list[k], worldText(w))
			}
		}
	}
	if codes[impl.RunBad]+codes[impl.RunShut] > 0 || min(codes[impl.RunFine], codes[impl.RunLong], codes[impl.RunFail]) < 2000 {
		t.Errorf("steps come to codes so many times: %v", codes)
	}
}

// P83: what is needed needs nothing more: it has the target as its last one, all inputs of all that it has, and nothing but these.
func TestNeededNeedsNothingMore(t *testing.T) {
	further, spared := 0, 0
	for _, w := range append(rolledWorlds(83, 6000), worldsToBuild()...) {
		for k := range w {
			needed := impl.WorldNeeds(w, k)
			if len(needed) == 0 || needed[len(needed)-1] != k || !slices.IsSorted(needed) {
				t.Fatalf("%d needs %v in%s", k, needed, worldText(w))
			}
			asked := on(k)
			for i, at := range needed {
				if i > 0 && needed[i-1] == at {
					t.Fatalf("%d needs %v in%s", k, needed, worldText(w))
				}
				asked = append(asked, w[at].Ins...)
				for _, more := range impl.WorldNeeds(w, at) {
					if !slices.Contains(needed, more) {
						t.Fatalf("%d needs %v, and %d needs %d in%s", k, needed, at, more, worldText(w))
					}
				}
			}
			slices.Sort(asked)
			checkNeeded(t, w, k, slices.Compact(asked))
			if len(needed) > 1+len(w[k].Ins) {
				further++
			}
			if len(needed) <= k {
				spared++
			}
		}
	}
	if min(further, spared) < 10000 {
		t.Errorf("something is needed further back %d times, and something is not needed %d times", further, spared)
	}
}

// P83: in the world of what a target needs it needs all, and that is its own world again.
func TestPartsOfParts(t *testing.T) {
	for _, w := range worldsToBuild() {
		for k := range w {
			part := impl.WorldPart(w, k)
			var all []int
			for at := range part {
				all = append(all, at)
			}
			checkNeeded(t, part, len(part)-1, all)
			checkPart(t, part, len(part)-1, part)
			for i, at := range impl.WorldNeeds(w, k) {
				checkPart(t, part, i, impl.WorldPart(w, at))
			}
		}
	}
}

// P12, P13 and P81 to P83: what is handed in is left as it was, and what is handed out shares no memory with it, nor one answer with another.
func TestWorldsShareNothing(t *testing.T) {
	list := append(rolledWorlds(1213, 500), chain(13))
	for _, x := range knownWorlds() {
		list = append(list, x.w)
	}
	for _, none := range notTargets(6) {
		list = append(list, append(chain(6), none, sourceOf("b")))
	}
	for _, old := range list {
		w := handed(old)
		was := wholeText(w)
		impl.WorldOk(w)
		answers := []any{impl.Build(w), impl.Build(w)}
		for k := -1; k <= len(w); k++ {
			answers = append(answers, impl.WorldNeeds(w, k), impl.WorldPart(w, k), impl.WorldNeeds(w, k), impl.WorldPart(w, k))
		}
		checkMemory(t, "a world", was, []any{w}, answers)
	}
}
