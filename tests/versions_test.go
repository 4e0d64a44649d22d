package tests

import (
	"math"
	"regexp"
	"strconv"
	"testing"

	"loop.example/packageworld/impl"
)

func version(major int, minor int, patch int, ahead int) impl.Version {
	return impl.Version{Major: major, Minor: minor, Patch: patch, Ahead: ahead}
}

// rankedVersion is a version with its rank and text, written out by hand.
type rankedVersion struct {
	v    impl.Version
	rank int
	text string
}

func knownVersions() []rankedVersion {
	return []rankedVersion{
		{version(0, 0, 0, 1), 0, "0.0.0-1"},
		{version(0, 0, 0, 2), 1, "0.0.0-2"},
		{version(0, 0, 0, 9), 8, "0.0.0-9"},
		{version(0, 0, 0, 0), 9, "0.0.0"},
		{version(0, 0, 1, 1), 10, "0.0.1-1"},
		{version(0, 0, 1, 0), 19, "0.0.1"},
		{version(0, 0, 9, 0), 99, "0.0.9"},
		{version(0, 0, 10, 0), 109, "0.0.10"},
		{version(0, 0, 99, 0), 999, "0.0.99"},
		{version(0, 1, 0, 1), 1000, "0.1.0-1"},
		{version(0, 1, 0, 0), 1009, "0.1.0"},
		{version(0, 99, 99, 0), 99999, "0.99.99"},
		{version(1, 0, 0, 1), 100000, "1.0.0-1"},
		{version(1, 0, 0, 0), 100009, "1.0.0"},
		{version(1, 2, 3, 4), 102033, "1.2.3-4"},
		{version(1, 2, 3, 0), 102039, "1.2.3"},
		{version(10, 20, 30, 0), 1020309, "10.20.30"},
		{version(12, 34, 56, 7), 1234566, "12.34.56-7"},
		{version(99, 0, 0, 0), 9900009, "99.0.0"},
		{version(99, 99, 99, 1), 9999990, "99.99.99-1"},
		{version(99, 99, 99, 9), 9999998, "99.99.99-9"},
		{version(99, 99, 99, 0), 9999999, "99.99.99"},
	}
}

func notVersions() []impl.Version {
	return []impl.Version{
		version(-1, 0, 0, 0), version(0, -1, 0, 0), version(0, 0, -1, 0), version(0, 0, 0, -1),
		version(100, 0, 0, 0), version(0, 100, 0, 0), version(0, 0, 100, 0), version(0, 0, 0, 10),
		version(100, 99, 99, 0), version(99, 100, 99, 0), version(99, 99, 100, 0), version(99, 99, 99, 10),
		version(100, 0, 0, 5), version(-1, -1, -1, -1), version(100, 100, 100, 10), version(1, -1, 100, 0),
		version(math.MaxInt, 0, 0, 0), version(0, math.MaxInt, 0, 0), version(0, 0, math.MaxInt, 0), version(0, 0, 0, math.MaxInt),
		version(math.MinInt, 0, 0, 0), version(0, math.MinInt, 0, 0), version(0, 0, math.MinInt, 0), version(0, 0, 0, math.MinInt),
	}
}

func notRanks() []int {
	return []int{-1, -2, -10, -10000000, 10000000, 10000001, 10000009, 19999999, math.MaxInt, math.MinInt}
}

// edgeVersions has every mix of numbers at which a digit, a length or a bound changes.
func edgeVersions() []impl.Version {
	numbers := []int{0, 1, 9, 10, 98, 99}
	aheads := []int{0, 1, 2, 9}
	var list []impl.Version
	for _, major := range numbers {
		for _, minor := range numbers {
			for _, patch := range numbers {
				for _, ahead := range aheads {
					list = append(list, version(major, minor, patch, ahead))
				}
			}
		}
	}
	return list
}

// mustText is how the document has a version written, told without impl.
func mustText(v impl.Version) string {
	text := strconv.Itoa(v.Major) + "." + strconv.Itoa(v.Minor) + "." + strconv.Itoa(v.Patch)
	if v.Ahead != 0 {
		text += "-" + strconv.Itoa(v.Ahead)
	}
	return text
}

// mustLess is the order of versions as the document has it, told field by field and not by ranks.
func mustLess(a impl.Version, b impl.Version) bool {
	if a.Major != b.Major {
		return a.Major < b.Major
	}
	if a.Minor != b.Minor {
		return a.Minor < b.Minor
	}
	if a.Patch != b.Patch {
		return a.Patch < b.Patch
	}
	if a.Ahead == 0 || b.Ahead == 0 {
		return a.Ahead != 0 && b.Ahead == 0
	}
	return a.Ahead < b.Ahead
}

func checkNoVersion(t *testing.T, v impl.Version) {
	t.Helper()
	if impl.VersionOk(v) {
		t.Errorf("VersionOk(%v) is true", v)
	}
	if rank := impl.VersionRank(v); rank != -1 {
		t.Errorf("VersionRank(%v) is %d", v, rank)
	}
	if text := impl.VersionText(v); text != "" {
		t.Errorf("VersionText(%v) is %q", v, text)
	}
}

func checkNoRank(t *testing.T, rank int) {
	t.Helper()
	if v, ok := impl.VersionAt(rank); ok || v != (impl.Version{}) {
		t.Errorf("VersionAt(%d) is %v, %v", rank, v, ok)
	}
}

func checkRead(t *testing.T, text string, must impl.Version) {
	t.Helper()
	if v, ok := impl.VersionFrom(text); !ok || v != must {
		t.Errorf("VersionFrom(%q) is %v, %v", text, v, ok)
	}
}

func checkRefused(t *testing.T, text string) {
	t.Helper()
	if v, ok := impl.VersionFrom(text); ok || v != (impl.Version{}) {
		t.Errorf("VersionFrom(%q) is %v, %v", text, v, ok)
	}
}

// The way of chapter 1: a version is four numbers. This does not compile if it is anything else.
func TestVersionIsFourNumbers(t *testing.T) {
	type fourNumbers struct{ Major, Minor, Patch, Ahead int }
	if fourNumbers(version(1, 2, 3, 4)) != (fourNumbers{Major: 1, Minor: 2, Patch: 3, Ahead: 4}) {
		t.Error("a version is not its four numbers")
	}
}

func TestVersionConstants(t *testing.T) {
	if impl.VersionTop != 99 || impl.RankTop != 9999999 {
		t.Error(impl.VersionTop, impl.RankTop)
	}
}

// P36: the greatest version is one, and one more of a number makes it none.
func TestGreatestVersion(t *testing.T) {
	top := impl.VersionTop
	for _, v := range []impl.Version{version(top, top, top, 0), version(top, top, top, 9)} {
		if !impl.VersionOk(v) {
			t.Errorf("VersionOk(%v) is false", v)
		}
		checkNoVersion(t, version(v.Major+1, v.Minor, v.Patch, v.Ahead))
		checkNoVersion(t, version(v.Major, v.Minor+1, v.Patch, v.Ahead))
		checkNoVersion(t, version(v.Major, v.Minor, v.Patch+1, v.Ahead))
	}
	checkNoVersion(t, version(top, top, top, 10))
}

// P36.
func TestVersionsAndNone(t *testing.T) {
	for _, x := range knownVersions() {
		if !impl.VersionOk(x.v) {
			t.Errorf("VersionOk(%v) is false", x.v)
		}
	}
	for _, v := range edgeVersions() {
		if !impl.VersionOk(v) {
			t.Errorf("VersionOk(%v) is false", v)
		}
	}
	for _, v := range notVersions() {
		checkNoVersion(t, v)
	}
}

// P37: each version has a rank of its own, from which it comes back.
func TestRankOfVersion(t *testing.T) {
	for _, x := range knownVersions() {
		if rank := impl.VersionRank(x.v); rank != x.rank {
			t.Errorf("VersionRank(%v) is %d, not %d", x.v, rank, x.rank)
		}
		if v, ok := impl.VersionAt(x.rank); !ok || v != x.v {
			t.Errorf("VersionAt(%d) is %v, %v", x.rank, v, ok)
		}
	}
	for _, v := range notVersions() {
		checkNoVersion(t, v)
	}
}

// P37: the versions are gone through in their order, so that the rank of each is how many were before it.
func TestRanksInOrder(t *testing.T) {
	rank := 0
	for major := 0; major <= 99; major++ {
		for minor := 0; minor <= 99; minor++ {
			for patch := 0; patch <= 99; patch++ {
				for _, ahead := range [10]int{1, 2, 3, 4, 5, 6, 7, 8, 9, 0} {
					v := version(major, minor, patch, ahead)
					if impl.VersionRank(v) != rank {
						t.Fatalf("VersionRank(%v) is %d, not %d", v, impl.VersionRank(v), rank)
					}
					if back, ok := impl.VersionAt(rank); !ok || back != v {
						t.Fatalf("VersionAt(%d) is %v, %v", rank, back, ok)
					}
					rank++
				}
			}
		}
	}
	if rank != 10000000 {
		t.Errorf("there are %d versions", rank)
	}
}

// P38: each rank is that of a version.
func TestVersionOfRank(t *testing.T) {
	for rank := 0; rank <= impl.RankTop; rank++ {
		v, ok := impl.VersionAt(rank)
		if !ok || !impl.VersionOk(v) || impl.VersionRank(v) != rank {
			t.Fatalf("VersionAt(%d) is %v, %v", rank, v, ok)
		}
	}
	for _, rank := range notRanks() {
		checkNoRank(t, rank)
	}
}

// P39: of two versions one is before the other one, or they are the same.
func TestOneVersionIsBefore(t *testing.T) {
	list := edgeVersions()
	for _, a := range list {
		for _, b := range list {
			less := impl.VersionLess(a, b)
			if less != mustLess(a, b) {
				t.Fatalf("VersionLess(%v, %v) is %v", a, b, less)
			}
			more := impl.VersionLess(b, a)
			if less && more {
				t.Fatalf("%v and %v are both before the other one", a, b)
			}
			if (!less && !more) != (a == b) {
				t.Fatalf("%v and %v are neither apart nor the same", a, b)
			}
		}
	}
}

// P39: what goes ahead of a version is before it, and after all that is before that.
func TestAheadIsBefore(t *testing.T) {
	for _, v := range edgeVersions() {
		final := version(v.Major, v.Minor, v.Patch, 0)
		for ahead := 1; ahead <= 9; ahead++ {
			early := version(v.Major, v.Minor, v.Patch, ahead)
			if !impl.VersionLess(early, final) || impl.VersionLess(final, early) {
				t.Errorf("%v is not before %v", early, final)
			}
			if ahead > 1 && !impl.VersionLess(version(v.Major, v.Minor, v.Patch, ahead-1), early) {
				t.Errorf("what goes ahead of %v is not in order at %d", final, ahead)
			}
		}
		if v.Patch > 0 && !impl.VersionLess(version(v.Major, v.Minor, v.Patch-1, 0), version(v.Major, v.Minor, v.Patch, 1)) {
			t.Errorf("what goes ahead of %v is not after the version before it", final)
		}
	}
}

// P39: what is none is before nothing, and nothing is before it.
func TestNoVersionIsBefore(t *testing.T) {
	for _, none := range notVersions() {
		for _, x := range knownVersions() {
			if impl.VersionLess(none, x.v) || impl.VersionLess(x.v, none) {
				t.Errorf("%v and %v are in an order", none, x.v)
			}
		}
		for _, other := range notVersions() {
			if impl.VersionLess(none, other) {
				t.Errorf("VersionLess(%v, %v) is true", none, other)
			}
		}
	}
}

// P40: a version as text is read back.
func TestTextIsReadBack(t *testing.T) {
	for _, x := range knownVersions() {
		if text := impl.VersionText(x.v); text != x.text {
			t.Errorf("VersionText(%v) is %q, not %q", x.v, text, x.text)
		}
		checkRead(t, x.text, x.v)
	}
	for _, v := range edgeVersions() {
		if text := impl.VersionText(v); text != mustText(v) {
			t.Errorf("VersionText(%v) is %q", v, text)
		}
		checkRead(t, mustText(v), v)
	}
	for _, v := range notVersions() {
		checkNoVersion(t, v)
	}
}

// P40: 37 has no divisor in common with 10 and 100, so that each number and each Ahead comes up in each place.
func TestManyTextsAreReadBack(t *testing.T) {
	for rank := 0; rank <= impl.RankTop; rank += 37 {
		v, _ := impl.VersionAt(rank)
		text := impl.VersionText(v)
		if text != mustText(v) {
			t.Fatalf("VersionText(%v) is %q", v, text)
		}
		if back, ok := impl.VersionFrom(text); !ok || back != v {
			t.Fatalf("VersionFrom(%q) is %v, %v", text, back, ok)
		}
	}
}

func textsOfNone() []string {
	return []string{
		"",
		"0", "1", "1.", "1.2", "1.2.", ".", "..", "...", "-", "-1", "1-1", "1.2-3", "1.2.-3", "1.2.3-", ".2.3", "1..3", "1.2.", "..3",
		"1.2.3.4", "1.2.3.", ".1.2.3", "1..2.3", "1.2..3", "1.2.3.4-5", "1.2.3-4.5", "1.2.3-4-5", "1.2.3--4", "1.2.3-.4", "1.2.3.-4", "1-2-3", "1.2-3.4", "1-2.3",
		"00.0.0", "0.00.0", "0.0.00", "01.2.3", "1.02.3", "1.2.03", "1.2.3-04", "001.2.3", "1.2.003", "00.00.00", "01.02.03-04",
		"1.2.3-0", "1.2.3-00", "1.2.3-10", "1.2.3-01", "1.2.3-11", "1.2.3-99", "1.2.3-100", "0.0.0-0", "99.99.99-10",
		"100.0.0", "0.100.0", "0.0.100", "100.100.100", "101.2.3", "1.2.300", "999.0.0", "99.99.100",
		"256.0.0", "65536.0.0", "4294967296.0.0", "4294967297.2.3", "18446744073709551616.0.0", "18446744073709551617.2.3",
		"1.18446744073709551618.3", "1.2.18446744073709551619", "1.2.3-18446744073709551620", "99999999999999999999999999999999.0.0",
		"+1.2.3", "1.+2.3", "1.2.+3", "1.2.3-+4", "+0.0.0", "1.2.3+4", "1.2.3+", "-1.2.3", "1.-2.3", "1.2.-3", "1.2.3--4", "-0.0.0", "1.2.3-4+", "1.2.3-4-",
		" 1.2.3", "1.2.3 ", "1 .2.3", "1. 2.3", "1.2 .3", "1.2. 3", "1.2.3 -4", "1.2.3- 4", "1.2.3-4 ", " 1.2.3-4", "1 2 3", " ", "\t1.2.3", "1.2.3\t", "1.2.3\n", "\n1.2.3", "1.2.3\r\n", "1.2.3-4\n",
		"a", "a.b.c", "1.2.c", "a.2.3", "1.b.3", "v1.2.3", "V1.2.3", "1.2.3a", "1.2.3-a", "1.2.3-4a", "1.2.3-a4", "0x1.2.3", "1e1.2.3", "1_0.2.3", "1.2.x", "1.2.*", "a 1.2.3",
		"1,2,3", "1.2,3", "1:2:3", "1/2/3", "1.2.3/4", "1.2.3_4", "1.2.3~4", "\"1.2.3\"", "(1.2.3)", "=1.2.3", "1.2.3|", "1.2.3..1.2.4",
		"\x001.2.3", "1.2.3\x00", "1.2.3-\x00", "1\x00.2.3", "\x80", "\xff", "1.2.3\x80", "1.2.\xb3", "1.2.3-\xb4", "\xb1.2.3", "1\xae2.3", "1.2.3\xad4", "\xef\xbb\xbf1.2.3", "１.2.3", "1．2．3", "1.2.3−4", "1.2.3–4", "²", "1.2.3\xff",
		"1.2.31.2.3", "1.2.3 1.2.3", "1.2.3-41.2.3", "1.2.3\n1.2.4",
	}
}

// P41: a text that is read is how its version is written, so each other one is refused.
func TestOtherTextsAreRefused(t *testing.T) {
	for _, text := range textsOfNone() {
		checkRefused(t, text)
	}
}

// formOfVersion tells what a version is written like, without impl.
func formOfVersion() *regexp.Regexp {
	return regexp.MustCompile(`\A(0|[1-9][0-9]?)\.(0|[1-9][0-9]?)\.(0|[1-9][0-9]?)(-[1-9])?\z`)
}

func checkForm(t *testing.T, form *regexp.Regexp, text string) {
	t.Helper()
	v, ok := impl.VersionFrom(text)
	if ok != form.MatchString(text) {
		t.Fatalf("VersionFrom(%q) is %v, %v", text, v, ok)
	}
	if ok && (!impl.VersionOk(v) || mustText(v) != text || impl.VersionText(v) != text) {
		t.Fatalf("VersionFrom(%q) is %v", text, v)
	}
	if !ok && v != (impl.Version{}) {
		t.Fatalf("VersionFrom(%q) is %v beside false", text, v)
	}
}

// P41: each text that differs from a version in one byte, put for one, put in, or left out.
func TestTextsNearVersions(t *testing.T) {
	form := formOfVersion()
	for _, x := range knownVersions() {
		for i := 0; i <= len(x.text); i++ {
			for b := 0; b < 256; b++ {
				other := string([]byte{byte(b)})
				checkForm(t, form, x.text[:i]+other+x.text[i:])
				if i < len(x.text) {
					checkForm(t, form, x.text[:i]+other+x.text[i+1:])
				}
			}
			if i < len(x.text) {
				checkForm(t, form, x.text[:i]+x.text[i+1:])
			}
			checkForm(t, form, x.text[:i])
			checkForm(t, form, x.text[i:])
		}
	}
}

// P41: all texts of at most seven of the signs that matter; the shortest version with an Ahead has seven.
func TestShortTexts(t *testing.T) {
	signs := "019.-+ "
	form := formOfVersion()
	row := []string{""}
	for length := 0; length <= 7; length++ {
		var longer []string
		for _, text := range row {
			checkForm(t, form, text)
			for i := 0; length < 7 && i < len(signs); i++ {
				longer = append(longer, text+signs[i:i+1])
			}
		}
		row = longer
	}
}
