package tests

import (
	"fmt"
	"math"
	"slices"
	"strings"
	"testing"

	"loop.example/packageworld/impl"
)

func lineRead(in int) impl.Line {
	return impl.Line{Kind: impl.LineRead, A: in}
}

func linePut(text string) impl.Line {
	return impl.Line{Kind: impl.LinePut, Text: text}
}

func lineSkip(in int, many int) impl.Line {
	return impl.Line{Kind: impl.LineSkip, A: in, B: many}
}

func lineTurn() impl.Line {
	return impl.Line{Kind: impl.LineTurn}
}

func lineKeep(many int) impl.Line {
	return impl.Line{Kind: impl.LineKeep, A: many}
}

func lineFail(in int) impl.Line {
	return impl.Line{Kind: impl.LineFail, A: in}
}

func script(lines ...impl.Line) []impl.Line {
	return lines
}

// room is what a run is asked of.
type room struct {
	s    []impl.Line
	ins  []string
	open []bool
}

// roomOf is a room in which all inputs are open.
func roomOf(s []impl.Line, ins ...string) room {
	return room{s: s, ins: ins, open: slices.Repeat([]bool{true}, len(ins))}
}

// shutOff is a room in which some inputs are not open.
func shutOff(r room, shut ...int) room {
	open := slices.Clone(r.open)
	for _, in := range shut {
		open[in] = false
	}
	return room{s: r.s, ins: r.ins, open: open}
}

func run(r room) impl.Ran {
	return impl.RoomRun(r.s, r.ins, r.open)
}

func fine(out string, reads ...int) impl.Ran {
	return impl.Ran{Code: impl.RunFine, Out: out, Reads: reads}
}

// ended is a run that did not come to its end.
func ended(code int, reads ...int) impl.Ran {
	return impl.Ran{Code: code, Reads: reads}
}

func sameRan(a impl.Ran, b impl.Ran) bool {
	return a.Code == b.Code && a.Out == b.Out && slices.Equal(a.Reads, b.Reads)
}

// roomText and ranText tell what was run, and what came of it, with all bytes that are no letters.
func roomText(r room) string {
	return fmt.Sprintf("RoomRun(%#v, %q, %v)", r.s, r.ins, r.open)
}

func ranText(ran impl.Ran) string {
	return fmt.Sprintf("code %d, %q, %v", ran.Code, ran.Out, ran.Reads)
}

func checkRan(t *testing.T, r room, must impl.Ran) {
	t.Helper()
	if ran := run(r); !sameRan(ran, must) {
		t.Fatalf("%s is %s, not %s", roomText(r), ranText(ran), ranText(must))
	}
}

func checkScript(t *testing.T, s []impl.Line, ins int, must bool) {
	t.Helper()
	if impl.ScriptOk(s, ins) != must {
		t.Fatalf("ScriptOk(%#v, %d) is %v", s, ins, !must)
	}
}

func checkThings(t *testing.T, ins []string, must bool) {
	t.Helper()
	if impl.ThingsOk(ins) != must {
		t.Fatalf("ThingsOk(%q) is %v", ins, !must)
	}
}

// bytesOf is a text of so many bytes, no two of which that stand side by side are the same.
func bytesOf(many int) string {
	return strings.Repeat("abcdefghij", 1+many/10)[:many]
}

// linesOf are all lines of a script for so many inputs, where some texts are put, with their kinds as the document numbers them.
func linesOf(ins int, texts []string) []impl.Line {
	list := []impl.Line{{Kind: 3}}
	for in := range ins {
		list = append(list, impl.Line{Kind: 0, A: in}, impl.Line{Kind: 5, A: in})
		for many := 1; many <= 10; many++ {
			list = append(list, impl.Line{Kind: 2, A: in, B: many})
		}
	}
	for many := 0; many <= 40; many++ {
		list = append(list, impl.Line{Kind: 4, A: many})
	}
	for _, text := range texts {
		if len(text) <= 8 {
			list = append(list, impl.Line{Kind: 1, Text: text})
		}
	}
	return list
}

// edgeTexts are texts of which some are too long to be put, or to be there at all.
func edgeTexts() []string {
	return []string{"", "z", "!", "\x00", "\xff", "é", bytesOf(7), bytesOf(8), "éééé", bytesOf(9), "éééé!", bytesOf(39), bytesOf(40), bytesOf(41), bytesOf(1000)}
}

// edgeLines are lines of all kinds that there are, and of some that there are not, with all that is at a bound in all that a line has.
func edgeLines() []impl.Line {
	var list []impl.Line
	for _, kind := range []int{math.MinInt, -1, 0, 1, 2, 3, 4, 5, 6, 7, math.MaxInt} {
		for _, a := range []int{math.MinInt, -1, 0, 1, 4, 5, 6, 10, 39, 40, 41, math.MaxInt} {
			for _, b := range []int{math.MinInt, -1, 0, 1, 2, 9, 10, 11, 40, math.MaxInt} {
				for _, text := range edgeTexts() {
					list = append(list, impl.Line{Kind: kind, A: a, B: b, Text: text})
				}
			}
		}
	}
	return list
}

// notLines are none for any inputs, one thing being wrong with each.
func notLines() []impl.Line {
	return []impl.Line{
		// Of a kind that there is not.
		{Kind: -1}, {Kind: 6}, {Kind: math.MinInt}, {Kind: math.MaxInt},
		// An input that is not among the inputs.
		lineRead(-1), lineRead(5), lineRead(math.MinInt), lineRead(math.MaxInt),
		lineSkip(-1, 1), lineSkip(5, 1), lineSkip(math.MinInt, 1), lineSkip(math.MaxInt, 1),
		lineFail(-1), lineFail(5), lineFail(math.MinInt), lineFail(math.MaxInt),
		// A text that is too long.
		linePut(bytesOf(9)), linePut("éééé!"), linePut(bytesOf(40)), linePut(bytesOf(1000)),
		// None that are passed by, fewer, or too many.
		lineSkip(0, 0), lineSkip(0, -1), lineSkip(0, 11), lineSkip(0, math.MinInt), lineSkip(0, math.MaxInt),
		// Fewer bytes than none, or too many.
		lineKeep(-1), lineKeep(41), lineKeep(math.MinInt), lineKeep(math.MaxInt),
		// Something that a kind does not use.
		{Kind: impl.LineRead, B: 1}, {Kind: impl.LineRead, B: -1}, {Kind: impl.LineRead, Text: "z"},
		{Kind: impl.LinePut, A: 1, Text: "z"}, {Kind: impl.LinePut, A: -1}, {Kind: impl.LinePut, B: 1, Text: "z"}, {Kind: impl.LinePut, B: -1},
		{Kind: impl.LineSkip, B: 1, Text: "z"}, {Kind: impl.LineSkip, B: 10, Text: "\x00"},
		{Kind: impl.LineTurn, A: 1}, {Kind: impl.LineTurn, A: -1}, {Kind: impl.LineTurn, B: 1}, {Kind: impl.LineTurn, B: -1}, {Kind: impl.LineTurn, Text: "z"},
		{Kind: impl.LineKeep, A: 40, B: 1}, {Kind: impl.LineKeep, B: -1}, {Kind: impl.LineKeep, A: 40, Text: "z"},
		{Kind: impl.LineFail, B: 1}, {Kind: impl.LineFail, B: -1}, {Kind: impl.LineFail, Text: "!"},
	}
}

// linesUp are the lines of a script that come up, as long as none of them ends it: what is passed by hangs on inputs alone, and not on what was made.
func linesUp(s []impl.Line, ins []string) []impl.Line {
	if len(s) == 0 {
		return nil
	}
	next := 1
	if s[0].Kind == 2 && ins[s[0].A] == "" {
		next = min(1+s[0].B, len(s))
	}
	return append([]impl.Line{s[0]}, linesUp(s[next:], ins)...)
}

// mustMake tells what lines make that nothing ends. Nothing is turned round: it is noted whether what is there is read from its end, and then what comes behind it is put ahead of it.
func mustMake(up []impl.Line, ins []string) string {
	made, fromEnd := []byte{}, false
	put := func(text string) {
		list := []byte(text)
		if fromEnd {
			slices.Reverse(list)
			made = append(list, made...)
		} else {
			made = append(made, list...)
		}
	}
	for _, x := range up {
		switch {
		case x.Kind == 0:
			put(ins[x.A])
		case x.Kind == 1:
			put(x.Text)
		case x.Kind == 3:
			fromEnd = !fromEnd
		case x.Kind == 4 && fromEnd:
			made = made[max(len(made)-x.A, 0):]
		case x.Kind == 4:
			made = made[:min(x.A, len(made))]
		}
	}
	if fromEnd {
		slices.Reverse(made)
	}
	return string(made)
}

func mustRead(x impl.Line) bool {
	return x.Kind == 0 || x.Kind == 2 || x.Kind == 5
}

// firstOf is the place of the first line of some that is of a sort, or how many they are.
func firstOf(up []impl.Line, is func(x impl.Line) bool) int {
	if at := slices.IndexFunc(up, is); at >= 0 {
		return at
	}
	return len(up)
}

// mustEnd tells without impl at which line of those that come up a run ends, and with which code; behind all of them, if it is fine.
func mustEnd(r room, up []impl.Line) (int, int) {
	end, code := len(up), 0
	if at := firstOf(up, func(x impl.Line) bool { return mustRead(x) && !r.open[x.A] }); at < end {
		end, code = at, 2
	}
	if at := firstOf(up, func(x impl.Line) bool { return x.Kind == 5 && strings.HasPrefix(r.ins[x.A], "!") }); at < end {
		end, code = at, 4
	}
	for at := range end {
		if len(mustMake(up[:at+1], r.ins)) > 40 {
			return at, 3
		}
	}
	return end, code
}

// mustRan is what the document has a run of a room come to: where it ends is looked for among all lines that come up, and then what was read up to there, input by input.
func mustRan(r room) impl.Ran {
	up := linesUp(r.s, r.ins)
	end, code := mustEnd(r, up)
	must := impl.Ran{Code: code}
	if code == 0 {
		must.Out = mustMake(up, r.ins)
	}
	done := up[:end]
	if code == 3 || code == 4 {
		done = up[:end+1]
	}
	place := func(in int) int {
		return firstOf(done, func(x impl.Line) bool { return mustRead(x) && x.A == in })
	}
	for in := range r.ins {
		if place(in) < len(done) {
			must.Reads = append(must.Reads, in)
		}
	}
	slices.SortFunc(must.Reads, func(a int, b int) int { return place(a) - place(b) })
	return must
}

// okThings are texts that inputs can have.
func okThings() []string {
	return []string{"", "!", "a", "!x", "x!", "!!", " !", "xyz", "\x00\xff", "é", "\xc3", bytesOf(20), bytesOf(39), bytesOf(40), strings.Repeat("!", 40), strings.Repeat("é", 20)}
}

func rolledThing(d *dice) string {
	list := append(okThings(), "", "", "", "b", "cd", "\x80!", bytesOf(13))
	return list[d.roll(len(list))]
}

// rolledLine is a line of a script for so many inputs.
func rolledLine(d *dice, ins int) impl.Line {
	kind := d.roll(6)
	if ins == 0 {
		kind = []int{1, 3, 4}[d.roll(3)]
	}
	switch kind {
	case impl.LineRead:
		return lineRead(d.roll(ins))
	case impl.LinePut:
		return linePut([]string{"", "p", "qr", "!", "\xff\x00", bytesOf(8)}[d.roll(6)])
	case impl.LineSkip:
		return lineSkip(d.roll(ins), 1+min(d.roll(10), d.roll(10)))
	case impl.LineKeep:
		return lineKeep([]int{0, 1, 2, 3, 8, 20, 39, 40}[d.roll(8)])
	case impl.LineFail:
		return lineFail(d.roll(ins))
	}
	return lineTurn()
}

func rolledRoom(d *dice) room {
	var r room
	for range d.roll(6) {
		r.ins = append(r.ins, rolledThing(d))
		r.open = append(r.open, d.roll(12) > 0)
	}
	for range d.roll(11) {
		r.s = append(r.s, rolledLine(d, len(r.ins)))
	}
	return r
}

func rolledRooms(seed uint64, many int) []room {
	d := &dice{state: seed}
	var list []room
	for range many {
		list = append(list, rolledRoom(d))
	}
	return list
}

// smallRooms are all rooms of few lines of some, two inputs of some texts, and whatever is open.
func smallRooms() []room {
	lines := []impl.Line{lineRead(0), lineRead(1), linePut("xyz"), lineSkip(0, 1), lineSkip(1, 2), lineTurn(), lineKeep(0), lineKeep(2), lineFail(0), lineFail(1)}
	things := []string{"", "!b", "a!", bytesOf(38)}
	var list []room
	for _, s := range rows(lines, 3) {
		for _, ins := range rows(things, 2) {
			if len(ins) < 2 {
				continue
			}
			r := roomOf(s, ins...)
			list = append(list, r, shutOff(r, 0), shutOff(r, 1), shutOff(r, 0, 1))
		}
	}
	return list
}

// knownRoom is a room of which was found by hand what its run comes to.
type knownRoom struct {
	r    room
	must impl.Ran
}

// knownRooms are rooms at the edges that the document names.
func knownRooms() []knownRoom {
	most := bytesOf(40)
	eight := bytesOf(8)
	return []knownRoom{
		// No lines, as many as there can be, no inputs, and as many as there can be.
		{roomOf(nil), fine("")},
		{roomOf(script()), fine("")},
		{roomOf(nil, "a", "!", "", most, "b"), fine("")},
		{shutOff(roomOf(nil, "a"), 0), fine("")},
		{roomOf(script(linePut("a"), lineTurn(), lineKeep(1))), fine("a")},
		{roomOf(slices.Repeat(script(linePut("ab")), 10)), fine("abababababababababab")},
		{roomOf(slices.Repeat(script(lineTurn()), 10)), fine("")},
		{roomOf(script(lineRead(4), lineRead(3), lineRead(2), lineRead(1), lineRead(0)), "a", "b", "c", "d", "e"), fine("edcba", 4, 3, 2, 1, 0)},
		// Inputs that are read twice, and the order in which they were read first.
		{roomOf(script(lineRead(0), lineRead(0)), "ab"), fine("abab", 0)},
		{roomOf(script(lineRead(1), lineRead(0), lineRead(1), lineRead(0), lineRead(2)), "a", "b", "c"), fine("babac", 1, 0, 2)},
		{roomOf(script(lineSkip(2, 1), lineRead(2), lineFail(2), lineRead(0), lineRead(2)), "a", "b", "c"), fine("cac", 2, 0)},
		{roomOf(script(lineFail(1), lineSkip(0, 1), lineRead(1), lineRead(0)), "a", "b"), fine("ba", 1, 0)},
		{roomOf(script(lineSkip(1, 9), lineRead(0)), "a", "b"), fine("a", 1, 0)},
		{roomOf(script(lineFail(1), lineRead(0)), "a", ""), fine("a", 1, 0)},
		// Lines that are passed by: one, some, all that are left, more than these, and none; and one passed by that would pass others by.
		{roomOf(script(lineSkip(0, 1), linePut("a"), linePut("b")), ""), fine("b", 0)},
		{roomOf(script(lineSkip(0, 1), linePut("a"), linePut("b")), "x"), fine("ab", 0)},
		{roomOf(script(lineSkip(0, 2), linePut("a"), linePut("b"), linePut("c")), ""), fine("c", 0)},
		{roomOf(script(linePut("z"), lineSkip(0, 2), linePut("a"), linePut("b")), ""), fine("z", 0)},
		{roomOf(script(linePut("z"), lineSkip(0, 3), linePut("a"), linePut("b")), ""), fine("z", 0)},
		{roomOf(script(linePut("z"), lineSkip(0, 10), linePut("a"), linePut("b")), ""), fine("z", 0)},
		{roomOf(script(linePut("z"), lineSkip(0, 10)), ""), fine("z", 0)},
		{roomOf(script(linePut("z"), lineSkip(0, 1)), "x"), fine("z", 0)},
		{roomOf(script(lineSkip(0, 1), lineSkip(0, 10), linePut("b")), ""), fine("b", 0)},
		{roomOf(script(lineSkip(0, 1), lineSkip(1, 1), linePut("b"), linePut("c")), "", ""), fine("bc", 0)},
		{roomOf(script(lineSkip(0, 1), lineFail(1), lineSkip(2, 1), lineRead(3), linePut("e")), "", "!", "", "d"), fine("e", 0, 2)},
		{roomOf(append(script(lineSkip(0, 8)), slices.Repeat(script(linePut("a")), 9)...), ""), fine("a", 0)},
		{roomOf(append(script(lineSkip(0, 9)), slices.Repeat(script(linePut("a")), 9)...), ""), fine("", 0)},
		// An empty input is one that is passed for, wherever it stands; a text of a blank or of a zero byte is not empty.
		{roomOf(script(lineSkip(1, 1), linePut("a"), linePut("b")), "", "x"), fine("ab", 1)},
		{roomOf(script(lineSkip(1, 1), linePut("a"), linePut("b")), "x", ""), fine("b", 1)},
		{roomOf(script(lineSkip(0, 1), linePut("a"), linePut("b")), " "), fine("ab", 0)},
		{roomOf(script(lineSkip(0, 1), linePut("a"), linePut("b")), "\x00"), fine("ab", 0)},
		{roomOf(script(lineRead(0), linePut(""), lineRead(1)), "", "x"), fine("x", 0, 1)},
		// Texts of just as many bytes as there can be, and of one more.
		{roomOf(script(lineRead(0)), most), fine(most, 0)},
		{roomOf(script(lineRead(0), lineRead(1)), most, ""), fine(most, 0, 1)},
		{roomOf(script(lineRead(0), linePut("")), most), fine(most, 0)},
		{roomOf(script(lineRead(0), linePut("z")), bytesOf(39)), fine(bytesOf(39)+"z", 0)},
		{roomOf(script(linePut("z"), lineRead(0)), bytesOf(39)), fine("z"+bytesOf(39), 0)},
		{roomOf(slices.Repeat(script(linePut(eight)), 5)), fine(strings.Repeat(eight, 5))},
		{roomOf(script(lineRead(0)), strings.Repeat("é", 20)), fine(strings.Repeat("é", 20), 0)},
		{roomOf(script(lineRead(0), linePut("z")), most), ended(impl.RunLong, 0)},
		{roomOf(script(linePut("z"), lineRead(0)), most), ended(impl.RunLong, 0)},
		{roomOf(script(lineRead(1), lineRead(0)), "z", most), ended(impl.RunLong, 1, 0)},
		{roomOf(script(lineRead(0), lineRead(0)), bytesOf(21)), ended(impl.RunLong, 0)},
		{roomOf(slices.Repeat(script(linePut(eight)), 6)), ended(impl.RunLong)},
		{roomOf(append(slices.Repeat(script(linePut(eight)), 5), linePut("z"))), ended(impl.RunLong)},
		// A text that is too long for a while only, and one that is kept short in time.
		{roomOf(script(lineRead(0), linePut("z"), lineKeep(40)), most), ended(impl.RunLong, 0)},
		{roomOf(script(lineRead(0), linePut("z"), lineKeep(0), linePut("a")), most), ended(impl.RunLong, 0)},
		{roomOf(script(lineRead(0), lineRead(0), lineKeep(1), lineRead(1)), most, "b"), ended(impl.RunLong, 0)},
		{roomOf(script(lineRead(0), lineKeep(39), linePut("z")), most), fine(bytesOf(39)+"z", 0)},
		{roomOf(script(lineRead(0), lineKeep(0), lineRead(0)), most), fine(most, 0)},
		// Nothing is turned, and bytes that are no letters, and what comes behind what was turned.
		{roomOf(script(lineTurn())), fine("")},
		{roomOf(script(lineTurn(), linePut("ab"))), fine("ab")},
		{roomOf(script(linePut("ab"), lineTurn())), fine("ba")},
		{roomOf(script(linePut("ab"), lineTurn(), linePut("cd"))), fine("bacd")},
		{roomOf(script(linePut("ab"), lineTurn(), linePut("cd"), lineTurn())), fine("dcab")},
		{roomOf(script(linePut("ab"), lineTurn(), lineTurn())), fine("ab")},
		{roomOf(script(linePut("é"), lineTurn())), fine("\xa9\xc3")},
		{roomOf(script(linePut("\x00a\xff\x80"), lineTurn())), fine("\x80\xffa\x00")},
		{roomOf(script(lineRead(0), lineTurn()), "世"), fine("\x96\xb8\xe4", 0)},
		{roomOf(script(lineRead(0), lineTurn()), most), fine(strings.Repeat("jihgfedcba", 4), 0)},
		// None of the bytes are kept, as many as there are, more, and fewer, also of a letter of two bytes, or of what was turned.
		{roomOf(script(lineKeep(0))), fine("")},
		{roomOf(script(lineKeep(40))), fine("")},
		{roomOf(script(linePut("abc"), lineKeep(0))), fine("")},
		{roomOf(script(linePut("abc"), lineKeep(1))), fine("a")},
		{roomOf(script(linePut("abc"), lineKeep(2))), fine("ab")},
		{roomOf(script(linePut("abc"), lineKeep(3))), fine("abc")},
		{roomOf(script(linePut("abc"), lineKeep(4))), fine("abc")},
		{roomOf(script(linePut("abc"), lineKeep(40))), fine("abc")},
		{roomOf(script(lineRead(0), lineKeep(40)), most), fine(most, 0)},
		{roomOf(script(lineRead(0), lineKeep(39)), most), fine(bytesOf(39), 0)},
		{roomOf(script(linePut("é"), lineKeep(1))), fine("\xc3")},
		{roomOf(script(linePut("abc"), lineTurn(), lineKeep(2))), fine("cb")},
		{roomOf(script(linePut("abc"), lineKeep(2), linePut("d"))), fine("abd")},
		// It fails if an input begins with a mark, and not if it is empty, or has the mark further behind.
		{roomOf(script(linePut("a"), lineFail(0)), "!"), ended(impl.RunFail, 0)},
		{roomOf(script(linePut("a"), lineFail(0)), "!x"), ended(impl.RunFail, 0)},
		{roomOf(script(linePut("a"), lineFail(0), linePut("b")), "!!"), ended(impl.RunFail, 0)},
		{roomOf(script(lineRead(1), lineFail(0), lineRead(2)), "!", "b", "c"), ended(impl.RunFail, 1, 0)},
		{roomOf(script(lineRead(0), lineFail(0)), "!"), ended(impl.RunFail, 0)},
		{roomOf(script(linePut("a"), lineFail(0)), ""), fine("a", 0)},
		{roomOf(script(linePut("a"), lineFail(0)), "x!"), fine("a", 0)},
		{roomOf(script(linePut("a"), lineFail(0)), " !"), fine("a", 0)},
		{roomOf(script(linePut("a"), lineFail(0)), "\x00!"), fine("a", 0)},
		{roomOf(script(linePut("a"), lineFail(0)), "\xc2\xa1"), fine("a", 0)},
		{roomOf(script(linePut("!"), lineFail(0)), "x"), fine("!", 0)},
		{roomOf(script(lineRead(0), lineSkip(0, 1), linePut("b")), "!"), fine("!b", 0)},
		// What is not open can be left unread; it ends the run as soon as it is read, in each way, and is not noted.
		{shutOff(roomOf(script(lineRead(0)), "a", "b"), 1), fine("a", 0)},
		{shutOff(roomOf(script(lineRead(1)), "a", "b"), 0), fine("b", 1)},
		{shutOff(roomOf(script(lineSkip(0, 1), lineRead(1), linePut("c")), "", "b"), 1), fine("c", 0)},
		{shutOff(roomOf(script(lineSkip(0, 1), lineRead(1), linePut("c")), "a", "b"), 1), ended(impl.RunShut, 0)},
		{shutOff(roomOf(script(linePut("c"), lineRead(0)), "a"), 0), ended(impl.RunShut)},
		{shutOff(roomOf(script(linePut("c"), lineRead(0)), ""), 0), ended(impl.RunShut)},
		{shutOff(roomOf(script(lineSkip(0, 1)), "a"), 0), ended(impl.RunShut)},
		{shutOff(roomOf(script(lineSkip(0, 1), linePut("c"), linePut("d")), ""), 0), ended(impl.RunShut)},
		{shutOff(roomOf(script(lineFail(0)), "a"), 0), ended(impl.RunShut)},
		{shutOff(roomOf(script(lineFail(0)), "!"), 0), ended(impl.RunShut)},
		{shutOff(roomOf(script(lineRead(2), lineRead(1), lineRead(0)), "a", "b", "c"), 0), ended(impl.RunShut, 2, 1)},
		{shutOff(roomOf(script(lineRead(0), lineRead(1)), most, most), 1), ended(impl.RunShut, 0)},
		// What comes first ends it.
		{roomOf(script(lineRead(0), linePut("z"), lineFail(1)), most, "!"), ended(impl.RunLong, 0)},
		{roomOf(script(lineFail(1), lineRead(0), linePut("z")), most, "!"), ended(impl.RunFail, 1)},
		{shutOff(roomOf(script(lineFail(1), lineRead(0)), "a", "!"), 0), ended(impl.RunFail, 1)},
		{shutOff(roomOf(script(lineRead(0), lineFail(1)), "a", "!"), 0), ended(impl.RunShut)},
		{shutOff(roomOf(script(lineRead(1), linePut("z"), lineRead(0)), "a", most), 0), ended(impl.RunLong, 1)},
	}
}

// P11 and P80: runs that were told by hand.
func TestKnownRuns(t *testing.T) {
	for _, x := range knownRooms() {
		if !impl.ScriptOk(x.r.s, len(x.r.ins)) || !impl.ThingsOk(x.r.ins) {
			t.Fatalf("%v is no script, or %q are no texts", x.r.s, x.r.ins)
		}
		checkRan(t, x.r, x.must)
		if must := mustRan(x.r); !sameRan(must, x.must) {
			t.Fatalf("%s is told otherwise: %s", roomText(x.r), ranText(must))
		}
	}
}

// P11 and P80: runs come to just what is told of them in another way, of all small rooms and of many large ones.
func TestRunsAreAsTold(t *testing.T) {
	codes := make([]int, 5)
	for _, r := range append(smallRooms(), rolledRooms(90, 60000)...) {
		must := mustRan(r)
		checkRan(t, r, must)
		codes[must.Code]++
	}
	if codes[impl.RunBad] > 0 || min(codes[impl.RunFine], codes[impl.RunShut], codes[impl.RunLong], codes[impl.RunFail]) < 2000 {
		t.Errorf("codes are there so many times: %v", codes)
	}
}

// The numbers that chapter 9 names.
func TestRoomNumbers(t *testing.T) {
	bounds := []int{impl.ThingMost, impl.InMost, impl.LineMost, impl.PutMost}
	kinds := []int{impl.LineRead, impl.LinePut, impl.LineSkip, impl.LineTurn, impl.LineKeep, impl.LineFail}
	codes := []int{impl.RunFine, impl.RunBad, impl.RunShut, impl.RunLong, impl.RunFail}
	if !slices.Equal(bounds, []int{40, 5, 10, 8}) || !slices.Equal(kinds, []int{0, 1, 2, 3, 4, 5}) || !slices.Equal(codes, []int{0, 1, 2, 3, 4}) {
		t.Errorf("the numbers are %v, %v and %v", bounds, kinds, codes)
	}
}

// unread are the inputs of a room that its run did not read.
func unread(r room, ran impl.Ran) []int {
	var list []int
	for in := range r.ins {
		if !slices.Contains(ran.Reads, in) {
			list = append(list, in)
		}
	}
	return list
}

// otherThing is a room in which an input has another text.
func otherThing(r room, in int, text string) room {
	ins := slices.Clone(r.ins)
	ins[in] = text
	return room{s: r.s, ins: ins, open: r.open}
}

// roomsToRead are rooms of which it is asked what a run reads.
func roomsToRead() []room {
	list := append(smallRooms(), rolledRooms(11, 12000)...)
	for _, x := range knownRooms() {
		list = append(list, x.r)
	}
	return list
}

// P11: whatever other texts the inputs have that were not read, one of them or all, a run comes to the same and reads the same.
func TestInputsThatWereNotRead(t *testing.T) {
	codes := make([]int, 5)
	d := &dice{state: 110}
	for _, r := range roomsToRead() {
		ran := run(r)
		rolled := r
		for _, in := range unread(r, ran) {
			for _, text := range okThings() {
				checkRan(t, otherThing(r, in, text), ran)
			}
			rolled = otherThing(rolled, in, rolledThing(d))
			codes[ran.Code]++
		}
		checkRan(t, rolled, ran)
	}
	if min(codes[impl.RunFine], codes[impl.RunShut], codes[impl.RunLong], codes[impl.RunFail]) < 1000 {
		t.Errorf("inputs are not read so many times: %v", codes)
	}
}

// P11: if nothing but what it read is open a run comes to the same and reads the same, and so it does if all is open but what ended it; the texts of the others do not count then, either.
func TestOnlyWhatWasReadIsOpen(t *testing.T) {
	codes, fewer := make([]int, 5), 0
	d := &dice{state: 111}
	for _, r := range roomsToRead() {
		ran := run(r)
		shut := unread(r, ran)
		only := shutOff(r, shut...)
		checkRan(t, only, ran)
		rolled := only
		for _, in := range shut {
			checkRan(t, shutOff(r, in), ran)
			rolled = otherThing(rolled, in, rolledThing(d))
		}
		checkRan(t, rolled, ran)
		codes[ran.Code]++
		if !slices.Equal(only.open, r.open) {
			fewer++
		}
	}
	if min(codes[impl.RunFine], codes[impl.RunShut], codes[impl.RunLong], codes[impl.RunFail]) < 1000 || fewer < 10000 {
		t.Errorf("runs come to codes so many times: %v, and fewer inputs are open %d times", codes, fewer)
	}
}

// P11: each input that is told was read: not open, it ends the run before anything else that comes behind it.
func TestWhatWasReadCounts(t *testing.T) {
	many := 0
	for _, r := range roomsToRead() {
		ran := run(r)
		for at, in := range ran.Reads {
			checkRan(t, shutOff(r, in), ended(impl.RunShut, ran.Reads[:at]...))
			many++
		}
	}
	if many < 20000 {
		t.Errorf("inputs are read %d times only", many)
	}
}

// P11 and P78: with an input more, which no line reads, whether it is open or not, a run comes to the same and reads the same.
func TestOneInputMore(t *testing.T) {
	many := 0
	for _, r := range append(roomsToRead(), roomOf(nil), roomOf(script(linePut("a")))) {
		if len(r.ins) == 5 {
			continue
		}
		ran := run(r)
		for _, text := range []string{"", "!", "x", bytesOf(40)} {
			more := roomOf(r.s, with(r.ins, len(r.ins), text)...)
			copy(more.open, r.open)
			checkRan(t, more, ran)
			checkRan(t, shutOff(more, len(r.ins)), ran)
			many++
		}
	}
	if many < 10000 {
		t.Errorf("there is one input more %d times only", many)
	}
}

// P78: of all lines at the edges just those are lines of a script that the document lists, for however many inputs.
func TestLinesOfScripts(t *testing.T) {
	lines := edgeLines()
	for ins := -2; ins <= 7; ins++ {
		ok := make(map[impl.Line]bool)
		if 0 <= ins && ins <= 5 {
			for _, x := range linesOf(ins, edgeTexts()) {
				ok[x] = true
			}
		}
		for x := range ok {
			checkScript(t, script(x), ins, true)
		}
		for _, x := range lines {
			checkScript(t, script(x), ins, ok[x])
		}
	}
}

// P78: a script for some inputs is one for one more, as far as there can be, and for none beyond that; and not for fewer than it reads.
func TestScriptForOneMore(t *testing.T) {
	many := 0
	for _, r := range append(rolledRooms(78, 5000), roomsToRead()...) {
		needed := 0
		for _, x := range r.s {
			if mustRead(x) {
				needed = max(needed, x.A+1)
			}
		}
		for _, ins := range []int{math.MinInt, -1, 0, 1, 2, 3, 4, 5, 6, 7, math.MaxInt} {
			checkScript(t, r.s, ins, needed <= ins && ins <= 5)
		}
		many += needed
	}
	if many < 10000 {
		t.Errorf("inputs are needed %d times only", many)
	}
}

// P78: nothing is a script for none, and for as many inputs as there can be; as many lines as there can be are one, and one more is none.
func TestLengthsOfScripts(t *testing.T) {
	for _, ins := range []int{math.MinInt, -1, 0, 1, 2, 3, 4, 5, 6, math.MaxInt} {
		checkScript(t, nil, ins, 0 <= ins && ins <= 5)
		checkScript(t, script(), ins, 0 <= ins && ins <= 5)
	}
	for _, x := range linesOf(5, []string{"", bytesOf(8)}) {
		for _, many := range []int{0, 1, 2, 9, 10, 11, 12, 1000} {
			checkScript(t, slices.Repeat(script(x), many), 5, many <= 10)
		}
	}
}

// P78: lines with which one thing is wrong are no script, alone, and at any place among others.
func TestNoScript(t *testing.T) {
	long := slices.Repeat(script(lineTurn()), 9)
	for _, none := range notLines() {
		for ins := 0; ins <= 5; ins++ {
			checkScript(t, script(none), ins, false)
			for at := 0; at <= 9; at++ {
				checkScript(t, with(long, at, none), ins, false)
			}
		}
	}
	for in := 0; in < 5; in++ {
		for _, x := range script(lineRead(in), lineSkip(in, 1), lineFail(in)) {
			checkScript(t, script(linePut("a"), x), in, false)
			checkScript(t, script(linePut("a"), x), in+1, true)
		}
	}
}

// P79: texts are fine, however many of them, up to as many as there can be, and one more is too many.
func TestOneTextTooMany(t *testing.T) {
	for _, text := range okThings() {
		for many := 0; many <= 5; many++ {
			checkThings(t, slices.Repeat([]string{text}, many), true)
		}
		for _, many := range []int{6, 7, 10, 40, 1000} {
			checkThings(t, slices.Repeat([]string{text}, many), false)
		}
	}
	for _, r := range rolledRooms(79, 2000) {
		checkThings(t, r.ins, true)
		full := append(slices.Clone(r.ins), make([]string, 5-len(r.ins))...)
		checkThings(t, full, true)
		for _, text := range []string{"", "a", bytesOf(40)} {
			checkThings(t, append(slices.Clone(full), text), false)
		}
	}
	checkThings(t, nil, true)
	checkThings(t, []string{}, true)
}

// longThings are texts that are too long, by their bytes and not by their letters.
func longThings() []string {
	return []string{bytesOf(41), bytesOf(42), bytesOf(80), bytesOf(100000), strings.Repeat("\x00", 41), strings.Repeat("é", 20) + "z", strings.Repeat("é", 21), strings.Repeat("世", 14)}
}

// P79: a text has at most as many bytes as it can have, wherever it stands.
func TestThingsTooLong(t *testing.T) {
	for _, many := range []int{0, 1, 39, 40} {
		checkThings(t, []string{bytesOf(many)}, true)
	}
	for _, text := range longThings() {
		checkThings(t, []string{text}, false)
		for at := 0; at < 5; at++ {
			checkThings(t, with([]string{"", "a", bytesOf(40), "!"}, at, text), false)
		}
	}
}

// P80: a run that is fine made a text that is not too long, and one that is not made nothing; each input is read once, and is open; and with all open what is fine makes the same and reads the same.
func TestRunsThatAreFine(t *testing.T) {
	whole, shut := 0, 0
	for _, r := range append(rolledRooms(80, 20000), roomsToRead()...) {
		ran := run(r)
		if len(ran.Out) > 40 || ran.Code != impl.RunFine && ran.Out != "" {
			t.Fatalf("%s is %s", roomText(r), ranText(ran))
		}
		for at, in := range ran.Reads {
			if in < 0 || in >= len(r.ins) || !r.open[in] || slices.Contains(ran.Reads[:at], in) {
				t.Fatalf("%s reads %v", roomText(r), ran.Reads)
			}
		}
		all := roomOf(r.s, r.ins...)
		if ran.Code != impl.RunShut {
			checkRan(t, all, ran)
			if slices.Contains(r.open, false) {
				shut++
			}
		} else if more := run(all); more.Code == impl.RunShut || !slices.Equal(more.Reads[:len(ran.Reads)], ran.Reads) {
			t.Fatalf("%s is %s, and with all open %s", roomText(r), ranText(ran), ranText(more))
		}
		if ran.Code == impl.RunFine {
			whole++
		}
	}
	if whole < 10000 || shut < 2000 {
		t.Errorf("runs are fine %d times only, and some inputs are not open %d times", whole, shut)
	}
}

// P80: bytes are made up to as many as there can be, by whatever is put or read last.
func TestLengthsOfTexts(t *testing.T) {
	for first := 0; first <= 40; first++ {
		for next := 0; next <= 40; next++ {
			made := bytesOf(first) + bytesOf(next)
			list := []room{roomOf(script(lineRead(0), lineRead(1)), bytesOf(first), bytesOf(next))}
			if next <= 8 {
				list = append(list, roomOf(script(lineRead(0), lineSkip(1, 1), linePut(bytesOf(next))), bytesOf(first), "x"))
			}
			for _, r := range list {
				if len(made) <= 40 {
					checkRan(t, r, fine(made, 0, 1))
				} else {
					checkRan(t, r, ended(impl.RunLong, 0, 1))
				}
			}
		}
	}
}

func checkNotRan(t *testing.T, s []impl.Line, ins []string, open []bool) {
	t.Helper()
	checkRan(t, room{s: s, ins: ins, open: open}, ended(impl.RunBad))
}

// P80: where something is no script, no line of it is run, even if the run would end before, or pass it by.
func TestNoScriptIsRun(t *testing.T) {
	all := []bool{true, true, true, true, true}
	ins := []string{"", "!", "a", bytesOf(40), "b"}
	for _, none := range notLines() {
		checkNotRan(t, script(none), ins, all)
		checkNotRan(t, script(none, lineRead(2)), ins, all)
		checkNotRan(t, script(lineRead(2), none), ins, all)
		checkNotRan(t, script(lineFail(1), none), ins, all)
		checkNotRan(t, script(lineSkip(0, 1), none), ins, all)
		checkNotRan(t, script(lineRead(3), lineRead(3), none), ins, all)
		checkNotRan(t, script(lineRead(2), none), ins, make([]bool, 5))
	}
	for in := range 5 {
		for _, x := range script(lineRead(in), lineSkip(in, 1), lineFail(in)) {
			checkNotRan(t, script(x), ins[:in], all[:in])
		}
	}
	for _, x := range script(linePut(""), lineTurn(), lineKeep(0), lineFail(1), lineSkip(0, 10)) {
		checkNotRan(t, slices.Repeat(script(x), 11), ins, all)
		checkNotRan(t, slices.Repeat(script(x), 1000), ins, all)
	}
}

// P80: where texts are none, or not as many truths are told as there are inputs, nothing is run.
func TestNothingIsRun(t *testing.T) {
	for _, s := range [][]impl.Line{nil, script(linePut("a")), script(lineRead(0)), script(lineFail(0), lineRead(1))} {
		for _, text := range longThings() {
			for at := 0; at <= 4; at++ {
				r := roomOf(s, with([]string{"!", "a", "", bytesOf(40)}, at, text)...)
				checkNotRan(t, r.s, r.ins, r.open)
				checkNotRan(t, r.s, r.ins, make([]bool, 5))
			}
		}
		for _, many := range []int{6, 7, 1000} {
			r := roomOf(s, make([]string, many)...)
			checkNotRan(t, r.s, r.ins, r.open)
			checkNotRan(t, r.s, r.ins, r.open[:5])
			checkNotRan(t, r.s, r.ins[:5], r.open)
		}
		for ins := 0; ins <= 5; ins++ {
			for open := 0; open <= 7; open++ {
				if ins != open {
					checkNotRan(t, s, slices.Repeat([]string{"a"}, ins), slices.Repeat([]bool{true}, open))
				}
			}
		}
	}
}

// P11 and P78 to P80: what is handed in is left as it was, and what is handed out shares no memory with it, nor one answer with another.
func TestRoomsShareNothing(t *testing.T) {
	list := rolledRooms(1180, 4000)
	for _, x := range knownRooms() {
		list = append(list, x.r)
	}
	for _, none := range notLines() {
		list = append(list, roomOf(script(lineRead(0), none), "a", "b"), roomOf(script(lineRead(0), none)))
	}
	for _, text := range longThings()[:4] {
		list = append(list, roomOf(script(lineRead(1)), "a", text), roomOf(script(lineRead(1)), make([]string, 6)...))
	}
	for _, old := range list {
		s, ins, open := handed(old.s), handed(old.ins), handed(old.open)
		was := wholeText(s, ins, open)
		impl.ScriptOk(s, len(ins))
		impl.ThingsOk(ins)
		ran, again := impl.RoomRun(s, ins, open), impl.RoomRun(s, ins, open)
		if !sameRan(ran, again) {
			t.Fatalf("%s is %s, and asked again %s", roomText(old), ranText(ran), ranText(again))
		}
		checkMemory(t, "a run", was, []any{s, ins, open}, []any{ran, again})
	}
}
