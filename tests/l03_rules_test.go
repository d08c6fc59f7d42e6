package tests

import (
	"math"
	"regexp"
	"slices"
	"strings"
	"testing"

	"loop.example/g03201/impl"
)

func ruleOf(left, right string) impl.Rule {
	return impl.Rule{Left: left, Right: right}
}

func systemOf(letters int, rules ...impl.Rule) impl.System {
	return impl.System{Letters: letters, Rules: rules}
}

// manyRules are n ordered rules of one letter; they repeat.
func manyRules(n int) []impl.Rule {
	var list []impl.Rule
	for i := 0; i < n; i++ {
		list = append(list, ruleOf(strings.Repeat("a", 1+i%8), ""))
	}
	return list
}

func equalSystems(s, t impl.System) bool {
	return s.Letters == t.Letters && slices.Equal(s.Rules, t.Rules)
}

func isZeroSystem(s impl.System) bool {
	return equalSystems(s, impl.System{})
}

var (
	patternOfRule   = regexp.MustCompile(`\A([a-d]{1,16}|\.)>([a-d]{1,16}|\.)\z`)
	patternOfSystem = regexp.MustCompile(`\A[1-4]( [a-d]{1,8}>([a-d]{1,8}|\.)){0,12}\z`)
)

// rulesOfTwoLetters are all rules whose sides have at most n of the letters a and b.
func rulesOfTwoLetters(n int) []impl.Rule {
	var list []impl.Rule
	textsOf("ab", n, func(left string) {
		textsOf("ab", n, func(right string) { list = append(list, ruleOf(left, right)) })
	})
	return list
}

// listsOfRules calls f with all lists of at most n of the rules.
func listsOfRules(rules []impl.Rule, n int, f func(list []impl.Rule)) {
	lists := [][]impl.Rule{nil}
	for length := 0; length <= n; length++ {
		var longer [][]impl.Rule
		for _, list := range lists {
			f(list)
			for _, r := range rules {
				longer = append(longer, append(slices.Clone(list), r))
			}
		}
		lists = longer
	}
}

// someSystems are systems of every kind: ordered, with valid rules only, and not valid.
func someSystems() []impl.System {
	side := strings.Repeat("b", 8)
	list := []impl.System{
		{}, {Rules: []impl.Rule{}}, {Letters: 1}, {Letters: 4}, {Letters: 4, Rules: []impl.Rule{}}, {Letters: 5}, {Letters: -1},
		{Letters: math.MaxInt}, {Letters: math.MinInt},
		systemOf(2, ruleOf("ba", "ab")), systemOf(1, ruleOf("ba", "ab")), systemOf(0, ruleOf("ba", "ab")), systemOf(5, ruleOf("ba", "ab")),
		systemOf(2, ruleOf("ba", "ab"), ruleOf("ba", "ab")), systemOf(2, ruleOf("ab", "ba")), systemOf(2, ruleOf("a", "a")),
		systemOf(2, ruleOf("", "a")), systemOf(2, ruleOf("", "")), systemOf(2, ruleOf("a", "")), systemOf(2, ruleOf("a", "c")),
		systemOf(2, ruleOf(side, side[1:])), systemOf(2, ruleOf(side+"b", "a")), systemOf(2, ruleOf("a", side+"b")), systemOf(2, ruleOf("a", side)),
		systemOf(3, ruleOf("cb", "bc"), ruleOf("ca", "ac"), ruleOf("ba", "ab")), systemOf(4, ruleOf("abcd", "dcba"), ruleOf("a", "b")),
		systemOf(1, manyRules(12)...), systemOf(1, manyRules(13)...), systemOf(1, manyRules(300)...),
	}
	for _, w := range oddTexts() {
		list = append(list, systemOf(4, ruleOf(w, "a")), systemOf(4, ruleOf("dd", w)), systemOf(4, ruleOf("b", "a"), ruleOf(w, "")))
	}
	return list
}

func TestRuleConstants(t *testing.T) {
	if impl.MaxRules != 12 || impl.MaxSide != 8 {
		t.Errorf("MaxRules = %d and MaxSide = %d, want 12 and 8", impl.MaxRules, impl.MaxSide)
	}
}

func TestSidesOk(t *testing.T) {
	full := "aabbaabb"
	cases := []struct {
		k    int
		side string
		want bool
	}{
		{1, "", true}, {4, "", true}, {0, "", false}, {5, "", false}, {-1, "", false}, {math.MinInt, "", false}, {math.MaxInt, "", false}, {257, "a", false},
		{0, "a", false}, {1, "a", true}, {1, "b", false}, {2, "b", true}, {2, "c", false}, {3, "c", true}, {3, "d", false}, {4, "d", true}, {4, "e", false}, {5, "a", false}, {5, "e", false},
		{2, full, true}, {2, full + "a", false}, {1, full, false}, {4, "abcdabcd", true}, {4, "abcdabcda", false},
		{2, full + full, false}, {2, full + full + "a", false}, {1, strings.Repeat("a", 1000), false},
		{2, "a.", false}, {2, ">", false}, {2, "a>b", false}, {2, "a b", false}, {2, ".", false}, {2, " ", false}, {4, "ab\x80", false},
	}
	for _, c := range cases {
		for _, other := range []string{"", "a"} {
			// Every k that takes the side takes the other one, too.
			if got := impl.SidesOk(c.k, ruleOf(c.side, other)); got != c.want {
				t.Errorf("SidesOk(%d, {%q, %q}) = %v", c.k, c.side, other, got)
			}
			if got := impl.SidesOk(c.k, ruleOf(other, c.side)); got != c.want {
				t.Errorf("SidesOk(%d, {%q, %q}) = %v", c.k, other, c.side, got)
			}
		}
		if got := impl.SidesOk(c.k, ruleOf(c.side, c.side)); got != c.want {
			t.Errorf("SidesOk(%d) with %q twice = %v", c.k, c.side, got)
		}
	}
	for _, w := range oddTexts() {
		for k := -1; k <= 6; k++ {
			if impl.SidesOk(k, ruleOf(w, "a")) || impl.SidesOk(k, ruleOf("a", w)) {
				t.Errorf("SidesOk(%d) with %q = true", k, w)
			}
		}
	}
}

func TestSidesOkWithEachByte(t *testing.T) {
	for k := 0; k <= 5; k++ {
		for b := 0; b < 256; b++ {
			want := 1 <= k && k <= 4 && 'a' <= b && b < 'a'+k
			w := "a" + string([]byte{byte(b)})
			if impl.SidesOk(k, ruleOf(w, "a")) != want || impl.SidesOk(k, ruleOf("a", w)) != want {
				t.Errorf("SidesOk(%d) with %q: want %v", k, w, want)
			}
		}
	}
}

func TestRulesOkAndSystemOk(t *testing.T) {
	side := strings.Repeat("b", 8)
	cases := []struct {
		s              impl.System
		rules, ordered bool
	}{
		{impl.System{}, false, false},
		{impl.System{Rules: []impl.Rule{}}, false, false},
		{impl.System{Letters: 1}, true, true},
		{impl.System{Letters: 2, Rules: []impl.Rule{}}, true, true},
		{impl.System{Letters: 3}, true, true},
		{impl.System{Letters: 4}, true, true},
		{impl.System{Letters: 5}, false, false},
		{impl.System{Letters: -1}, false, false},
		{impl.System{Letters: math.MinInt}, false, false},
		{impl.System{Letters: math.MaxInt}, false, false},
		{systemOf(0, ruleOf("a", "")), false, false},
		{systemOf(1, ruleOf("a", "")), true, true},
		{systemOf(4, ruleOf("a", "")), true, true},
		{systemOf(5, ruleOf("a", "")), false, false},
		{systemOf(1, ruleOf("b", "a")), false, false},
		{systemOf(2, ruleOf("b", "a")), true, true},
		{systemOf(2, ruleOf("ba", "ab")), true, true},
		{systemOf(2, ruleOf("ab", "ba")), true, false},
		{systemOf(2, ruleOf("a", "a")), true, false},
		{systemOf(2, ruleOf("b", "aa")), true, false},
		{systemOf(2, ruleOf("aa", "b")), true, true},
		{systemOf(2, ruleOf("", "")), false, false},
		{systemOf(2, ruleOf("", "a")), false, false},
		{systemOf(2, ruleOf("a", "c")), false, false},
		{systemOf(2, ruleOf("c", "a")), false, false},
		{systemOf(2, ruleOf("ba", "ab"), ruleOf("ba", "ab")), true, true},
		{systemOf(2, ruleOf("ba", "ab"), ruleOf("ab", "ba")), true, false},
		{systemOf(2, ruleOf("ab", "ba"), ruleOf("ba", "ab")), true, false},
		{systemOf(2, ruleOf("ba", "ab"), ruleOf("", "a")), false, false},
		{systemOf(2, ruleOf("", "a"), ruleOf("ba", "ab")), false, false},
		{systemOf(2, ruleOf("b", ""), ruleOf("a", ""), ruleOf("a", "c")), false, false},
		{systemOf(2, ruleOf(side, "a")), true, true},
		{systemOf(2, ruleOf(side, side)), true, false},
		{systemOf(2, ruleOf("a", side)), true, false},
		{systemOf(2, ruleOf(side+"b", "a")), false, false},
		{systemOf(2, ruleOf("a", side+"b")), false, false},
		{systemOf(2, ruleOf(side+"b", side)), false, false},
		{systemOf(1, manyRules(11)...), true, true},
		{systemOf(1, manyRules(12)...), true, true},
		{systemOf(1, manyRules(13)...), false, false},
		{systemOf(1, manyRules(1000)...), false, false},
		{systemOf(1, append(manyRules(11), ruleOf("a", "aa"))...), true, false},
		{systemOf(1, append(manyRules(11), ruleOf("b", ""))...), false, false},
		{systemOf(1, append(manyRules(12), ruleOf("a", "aa"))...), false, false},
	}
	for _, c := range cases {
		if got := impl.RulesOk(c.s); got != c.rules {
			t.Errorf("RulesOk(%#v) = %v", c.s, got)
		}
		if got := impl.SystemOk(c.s); got != c.ordered {
			t.Errorf("SystemOk(%#v) = %v", c.s, got)
		}
	}
	for _, w := range oddTexts() {
		for _, r := range []impl.Rule{ruleOf(w, "a"), ruleOf("dd", w), ruleOf(w, w)} {
			for k := 0; k <= 5; k++ {
				s := systemOf(k, ruleOf("b", "a"), r)
				if impl.RulesOk(s) || impl.SystemOk(s) {
					t.Errorf("%#v is said to be valid", s)
				}
			}
		}
	}
}

func TestOrientRule(t *testing.T) {
	side := strings.Repeat("b", 8)
	cases := []struct {
		k           int
		r           impl.Rule
		left, right string
		ok          bool
	}{
		{2, ruleOf("a", "b"), "b", "a", true},
		{2, ruleOf("b", "a"), "b", "a", true},
		{2, ruleOf("b", "aa"), "aa", "b", true},
		{2, ruleOf("aa", "b"), "aa", "b", true},
		{2, ruleOf("ab", "ba"), "ba", "ab", true},
		{2, ruleOf("", "a"), "a", "", true},
		{2, ruleOf("a", ""), "a", "", true},
		{2, ruleOf("", ""), "", "", false},
		{2, ruleOf("a", "a"), "", "", false},
		{2, ruleOf(side, side), "", "", false},
		{2, ruleOf(side, "a"+side[1:]), side, "a" + side[1:], true},
		{2, ruleOf("a"+side[1:], side), side, "a" + side[1:], true},
		{2, ruleOf(side+"b", "a"), "", "", false},
		{2, ruleOf("a", side+"b"), "", "", false},
		{2, ruleOf("", side+side), "", "", false},
		{1, ruleOf("a", "b"), "", "", false},
		{1, ruleOf("b", "a"), "", "", false},
		{0, ruleOf("", ""), "", "", false},
		{0, ruleOf("a", ""), "", "", false},
		{1, ruleOf("", "a"), "a", "", true},
		{4, ruleOf("c", "d"), "d", "c", true},
		{5, ruleOf("c", "d"), "", "", false},
		{5, ruleOf("e", ""), "", "", false},
		{-1, ruleOf("a", ""), "", "", false},
		{math.MaxInt, ruleOf("a", ""), "", "", false},
		{math.MinInt, ruleOf("a", ""), "", "", false},
		{4, ruleOf(".", "a"), "", "", false},
		{4, ruleOf("a", ">"), "", "", false},
		{4, ruleOf("a", " "), "", "", false},
		{4, ruleOf("a", "\xff"), "", "", false},
		{4, ruleOf("é", "a"), "", "", false},
	}
	for _, c := range cases {
		if got, ok := impl.OrientRule(c.k, c.r); got != ruleOf(c.left, c.right) || ok != c.ok {
			t.Errorf("OrientRule(%d, %q) = %q, %v, want {%q, %q}, %v", c.k, c.r, got, ok, c.left, c.right, c.ok)
		}
	}
}

func TestOrientedRulesHaveTheSameSides(t *testing.T) {
	pairsOfTexts("ab", 3, func(u, v string) {
		for k := 0; k <= 5; k++ {
			r, ok := impl.OrientRule(k, ruleOf(u, v))
			valid := impl.WordOk(k, u) && impl.WordOk(k, v) && u != v
			if ok != valid || !ok && r != (impl.Rule{}) {
				t.Fatalf("OrientRule(%d, {%q, %q}) = %q, %v", k, u, v, r, ok)
			}
			if !ok {
				continue
			}
			if r != ruleOf(u, v) && r != ruleOf(v, u) || !lessByBytes(r.Right, r.Left) || !impl.SystemOk(systemOf(k, r)) {
				t.Fatalf("OrientRule(%d, {%q, %q}) = %q", k, u, v, r)
			}
			again, _ := impl.OrientRule(k, r)
			if back, _ := impl.OrientRule(k, ruleOf(v, u)); again != r || back != r {
				t.Fatalf("the sides %q and %q are oriented as %q, %q and %q", u, v, r, back, again)
			}
		}
	})
}

func TestHasRule(t *testing.T) {
	cases := []struct {
		s    impl.System
		r    impl.Rule
		want bool
	}{
		{impl.System{}, impl.Rule{}, false},
		{impl.System{Rules: []impl.Rule{}}, impl.Rule{}, false},
		{systemOf(2), ruleOf("a", ""), false},
		{systemOf(2, ruleOf("ba", "ab")), ruleOf("ba", "ab"), true},
		{systemOf(2, ruleOf("ba", "ab")), ruleOf("ab", "ba"), false},
		{systemOf(2, ruleOf("ba", "ab")), ruleOf("ba", ""), false},
		{systemOf(2, ruleOf("ba", "ab")), ruleOf("", "ab"), false},
		{systemOf(2, ruleOf("ba", "ab")), impl.Rule{}, false},
		{systemOf(2, ruleOf("b", ""), ruleOf("a", "")), ruleOf("a", ""), true},
		{systemOf(2, ruleOf("b", ""), ruleOf("a", "")), ruleOf("b", ""), true},
		{systemOf(2, ruleOf("b", ""), ruleOf("a", "")), ruleOf("b", "a"), false},
		{systemOf(2, ruleOf("b", "a"), ruleOf("b", "a")), ruleOf("b", "a"), true},
		{systemOf(1, manyRules(12)...), ruleOf("aaaa", ""), true},
		// These systems are not valid, but they have their rules.
		{systemOf(0, ruleOf("ba", "ab")), ruleOf("ba", "ab"), true},
		{systemOf(5, ruleOf("ba", "ab")), ruleOf("ba", "ab"), true},
		{systemOf(1, ruleOf("ba", "ab")), ruleOf("ba", "ab"), true},
		{systemOf(2, ruleOf("", "a")), ruleOf("", "a"), true},
		{systemOf(2, impl.Rule{}), impl.Rule{}, true},
		{systemOf(2, ruleOf("", "")), ruleOf(".", "."), false},
		{systemOf(2, ruleOf(".", "")), ruleOf("", ""), false},
		{systemOf(2, ruleOf("a", "b")), ruleOf("a", "b"), true},
		{systemOf(2, ruleOf("a>b", "c")), ruleOf("a", "b>c"), false},
		{systemOf(2, ruleOf("\xff", "\xfe")), ruleOf("\xff", "\xfe"), true},
		{systemOf(2, ruleOf("\xff", "\xfe")), ruleOf("\xfe", "\xff"), false},
		{systemOf(2, ruleOf("\xff", "\xfe")), ruleOf("\ufffd", "\ufffd"), false},
		{systemOf(1, append(manyRules(40), ruleOf("z", "y"))...), ruleOf("z", "y"), true},
		{systemOf(1, append(manyRules(40), ruleOf("z", "y"))...), ruleOf("y", "z"), false},
	}
	for _, c := range cases {
		if got := impl.HasRule(c.s, c.r); got != c.want {
			t.Errorf("HasRule(%#v, %q) = %v", c.s, c.r, got)
		}
	}
}

func TestLongestSide(t *testing.T) {
	cases := []struct {
		s    impl.System
		want int
	}{
		{impl.System{}, 0},
		{impl.System{Letters: 2, Rules: []impl.Rule{}}, 0},
		{systemOf(2, ruleOf("ba", "ab")), 2},
		{systemOf(2, ruleOf("a", ""), ruleOf("bab", "a"), ruleOf("bb", "a")), 3},
		{systemOf(2, ruleOf("bab", "a"), ruleOf("a", "")), 3},
		{systemOf(2, ruleOf("a", ""), ruleOf("bab", "a")), 3},
		{systemOf(2, ruleOf("a", "bbbb")), 1},
		{systemOf(1, manyRules(12)...), 8},
		// These systems are not valid.
		{systemOf(2, ruleOf("", "bbbb")), 0},
		{systemOf(2, impl.Rule{}, impl.Rule{}), 0},
		{systemOf(0, ruleOf("abc", "")), 3},
		{systemOf(5, ruleOf("abc", "")), 3},
		{systemOf(1, ruleOf("z", ""), ruleOf("bb", "")), 2},
		{systemOf(2, ruleOf(strings.Repeat("a", 9), "")), 9},
		{systemOf(2, ruleOf(strings.Repeat("a", 17), ""), ruleOf("a", "")), 17},
		{systemOf(2, ruleOf(strings.Repeat("\xff", 700), "")), 700},
		{systemOf(2, ruleOf("é", "")), 2},
		{systemOf(1, append(manyRules(40), ruleOf("aaaaaaaaa", ""))...), 9},
	}
	for _, c := range cases {
		if got := impl.LongestSide(c.s); got != c.want {
			t.Errorf("LongestSide(%#v) = %d, want %d", c.s, got, c.want)
		}
	}
}

func TestMirrorSystem(t *testing.T) {
	cases := []struct{ s, want impl.System }{
		{impl.System{Letters: 1}, systemOf(1)},
		{impl.System{Letters: 4, Rules: []impl.Rule{}}, systemOf(4)},
		{systemOf(2, ruleOf("ba", "ab")), systemOf(2, ruleOf("ba", "ab"))},
		{systemOf(2, ruleOf("ba", "aa")), systemOf(2, ruleOf("ab", "aa"))},
		{systemOf(2, ruleOf("bab", "a")), systemOf(2, ruleOf("bab", "a"))},
		{systemOf(2, ruleOf("bba", "ab")), systemOf(2, ruleOf("abb", "ba"))},
		{systemOf(3, ruleOf("abc", "")), systemOf(3, ruleOf("cba", ""))},
		{systemOf(3, ruleOf("bac", "abb")), systemOf(3, ruleOf("cab", "bba"))},
		{systemOf(3, ruleOf("baa", "aac")), systemOf(3, ruleOf("caa", "aab"))},
		{systemOf(4, ruleOf("dabc", "abcd")), systemOf(4, ruleOf("dcba", "cbad"))},
		{systemOf(2, ruleOf("b", "a")), systemOf(2, ruleOf("b", "a"))},
		{systemOf(2, ruleOf("ba", "ab"), ruleOf("ba", "ab")), systemOf(2, ruleOf("ba", "ab"), ruleOf("ba", "ab"))},
		{systemOf(2, ruleOf("bba", "b"), ruleOf("ab", ""), ruleOf("aab", "a")), systemOf(2, ruleOf("abb", "b"), ruleOf("ba", ""), ruleOf("baa", "a"))},
		{systemOf(2, ruleOf("baaaaaaa", "aaaaaaab")), systemOf(2, ruleOf("baaaaaaa", "aaaaaaab"))},
		{systemOf(2, ruleOf("baaaaaaa", "abaaaaab")), systemOf(2, ruleOf("baaaaaba", "aaaaaaab"))},
		{systemOf(1, manyRules(12)...), systemOf(1, manyRules(12)...)},
	}
	for _, c := range cases {
		if got, ok := impl.MirrorSystem(c.s); !equalSystems(got, c.want) || !ok {
			t.Errorf("MirrorSystem(%#v) = %#v, %v, want %#v", c.s, got, ok, c.want)
		}
	}
	for _, s := range someSystems() {
		if got, ok := impl.MirrorSystem(s); ok != impl.SystemOk(s) || !ok && !isZeroSystem(got) {
			t.Errorf("MirrorSystem(%#v) = %#v, %v", s, got, ok)
		}
	}
}

func TestMirroredSystemsAreOrderedAndTurnBack(t *testing.T) {
	listsOfRules(rulesOfTwoLetters(3), 1, func(list []impl.Rule) {
		for _, s := range []impl.System{systemOf(2, list...), systemOf(2, append(slices.Clone(list), ruleOf("bba", "baa"))...)} {
			m, ok := impl.MirrorSystem(s)
			if ok != impl.SystemOk(s) || !ok && !isZeroSystem(m) {
				t.Fatalf("MirrorSystem(%#v) = %#v, %v", s, m, ok)
			}
			if !ok {
				continue
			}
			if !impl.SystemOk(m) || len(m.Rules) != len(s.Rules) {
				t.Fatalf("MirrorSystem(%#v) = %#v", s, m)
			}
			for i, r := range s.Rules {
				u, v := impl.MirrorWord(r.Left), impl.MirrorWord(r.Right)
				if m.Rules[i] != ruleOf(u, v) && m.Rules[i] != ruleOf(v, u) {
					t.Fatalf("MirrorSystem(%#v) = %#v", s, m)
				}
			}
			if back, ok := impl.MirrorSystem(m); !equalSystems(back, s) || !ok {
				t.Fatalf("MirrorSystem twice of %#v = %#v, %v", s, back, ok)
			}
		}
	})
}

func TestFormatRule(t *testing.T) {
	cases := []struct {
		r    impl.Rule
		want string
	}{
		{ruleOf("ab", "b"), "ab>b"},
		{ruleOf("ab", ""), "ab>."},
		{ruleOf("", "ab"), ".>ab"},
		{ruleOf("", ""), ".>."},
		{ruleOf("a", "a"), "a>a"},
		{ruleOf("e", "z"), "e>z"},
		{ruleOf(".", ""), ".>."},
		{ruleOf("a>b", ">"), "a>b>>"},
		{ruleOf(" ", "a b"), " >a b"},
		{ruleOf("\xff", "é\x00"), "\xff>é\x00"},
		{ruleOf(strings.Repeat("a", 17), strings.Repeat("b", 400)), strings.Repeat("a", 17) + ">" + strings.Repeat("b", 400)},
	}
	for _, c := range cases {
		if got := impl.FormatRule(c.r); got != c.want {
			t.Errorf("FormatRule(%q) = %q, want %q", c.r, got, c.want)
		}
	}
}

func TestParseRule(t *testing.T) {
	word := "abcdabcdabcdabcd"
	cases := []struct {
		text        string
		left, right string
		ok          bool
	}{
		{"ab>ba", "ab", "ba", true},
		{"a>.", "a", "", true},
		{".>a", "", "a", true},
		{".>.", "", "", true},
		{"a>a", "a", "a", true},
		{"d>c", "d", "c", true},
		{word[:9] + ">a", word[:9], "a", true},
		{"a>" + word[:9], "a", word[:9], true},
		{word + ">" + word, word, word, true},
		{word + "a>a", "", "", false},
		{"a>" + word + "a", "", "", false},
		{word + "a>.", "", "", false},
		{".>" + word + "a", "", "", false},
		{"", "", "", false},
		{"a", "", "", false},
		{"ab", "", "", false},
		{".", "", "", false},
		{">", "", "", false},
		{"a>", "", "", false},
		{">a", "", "", false},
		{".>", "", "", false},
		{">.", "", "", false},
		{">>", "", "", false},
		{"a>b>c", "", "", false},
		{"a>b>", "", "", false},
		{">a>b", "", "", false},
		{"a>>b", "", "", false},
		{".>.>.", "", "", false},
		{"..>a", "", "", false},
		{"a>..", "", "", false},
		{"a.>b", "", "", false},
		{".a>b", "", "", false},
		{"a>.b", "", "", false},
		{"a>b.", "", "", false},
		{"e>a", "", "", false},
		{"a>e", "", "", false},
		{"A>a", "", "", false},
		{"a>0", "", "", false},
		{" a>b", "", "", false},
		{"a>b ", "", "", false},
		{"a >b", "", "", false},
		{"a> b", "", "", false},
		{"a>b\n", "", "", false},
		{"a>b\x00", "", "", false},
		{"\xff>a", "", "", false},
		{"a>\x80", "", "", false},
		{"é>a", "", "", false},
		{"a＞b", "", "", false},
		{"a>b a>b", "", "", false},
		{strings.Repeat("a>", 2000), "", "", false},
	}
	for _, c := range cases {
		if got, ok := impl.ParseRule(c.text); got != ruleOf(c.left, c.right) || ok != c.ok {
			t.Errorf("ParseRule(%q) = %q, %v, want {%q, %q}, %v", c.text, got, ok, c.left, c.right, c.ok)
		}
	}
}

func TestRulesAreRecovered(t *testing.T) {
	word := "dcbadcbadcbadcba"
	for i := 0; i <= 20; i++ {
		for k := 0; k <= 20; k++ {
			r := ruleOf((word + "abcd")[:i], (word + "aaaa")[:k])
			got, ok := impl.ParseRule(impl.FormatRule(r))
			want := i <= 16 && k <= 16
			if ok != want || ok && got != r || !ok && got != (impl.Rule{}) {
				t.Errorf("ParseRule(FormatRule(%q)) = %q, %v", r, got, ok)
			}
		}
	}
	pairsOfTexts("acd", 3, func(u, v string) {
		r := ruleOf(u, v)
		got, ok := impl.ParseRule(impl.FormatRule(r))
		// The side "." has the text of the empty one.
		if want := patternOfRule.MatchString(impl.FormatRule(r)); ok != want || ok && u != "." && v != "." && got != r {
			t.Errorf("ParseRule(FormatRule(%q)) = %q, %v", r, got, ok)
		}
	})
}

func TestParseRuleAcceptsOnlyTextsOfRules(t *testing.T) {
	textsOf("ade.> \xff", 6, func(text string) {
		r, ok := impl.ParseRule(text)
		if want := patternOfRule.MatchString(text); ok != want {
			t.Fatalf("ParseRule(%q) = %q, %v", text, r, ok)
		}
		if ok && (impl.FormatRule(r) != text || !impl.WordOk(4, r.Left) || !impl.WordOk(4, r.Right)) {
			t.Fatalf("ParseRule(%q) = %q", text, r)
		}
		if !ok && r != (impl.Rule{}) {
			t.Fatalf("ParseRule(%q) = %q, false", text, r)
		}
	})
}

func TestFormatSystem(t *testing.T) {
	cases := []struct {
		s    impl.System
		want string
	}{
		{impl.System{Letters: 1}, "1"},
		{impl.System{Letters: 4, Rules: []impl.Rule{}}, "4"},
		{systemOf(2, ruleOf("ba", "ab")), "2 ba>ab"},
		{systemOf(2, ruleOf("ab", "ba")), "2 ab>ba"},
		{systemOf(2, ruleOf("a", "a"), ruleOf("b", "")), "2 a>a b>."},
		{systemOf(3, ruleOf("c", ""), ruleOf("c", ""), ruleOf("b", "aaaaaaaa")), "3 c>. c>. b>aaaaaaaa"},
		{systemOf(1, manyRules(12)...), "1 a>. aa>. aaa>. aaaa>. aaaaa>. aaaaaa>. aaaaaaa>. aaaaaaaa>. a>. aa>. aaa>. aaaa>."},
		{impl.System{}, ""},
		{impl.System{Letters: 5}, ""},
		{impl.System{Letters: -1}, ""},
		{systemOf(2, ruleOf("", "a")), ""},
		{systemOf(1, ruleOf("b", "a")), ""},
		{systemOf(2, ruleOf("aaaaaaaaa", "a")), ""},
		{systemOf(2, ruleOf("a", "aaaaaaaaa")), ""},
		{systemOf(1, manyRules(13)...), ""},
		{systemOf(4, ruleOf(".", "a")), ""},
		{systemOf(4, ruleOf("a", "b c>d")), ""},
	}
	for _, c := range cases {
		if got := impl.FormatSystem(c.s); got != c.want {
			t.Errorf("FormatSystem(%#v) = %q, want %q", c.s, got, c.want)
		}
	}
}

func TestParseSystem(t *testing.T) {
	tooMany := "1" + strings.Repeat(" a>.", 13)
	cases := []struct {
		text string
		want impl.System
		ok   bool
	}{
		{"1", systemOf(1), true},
		{"4", systemOf(4), true},
		{"2 ba>ab", systemOf(2, ruleOf("ba", "ab")), true},
		{"2 ab>ba", systemOf(2, ruleOf("ab", "ba")), true},
		{"2 a>a", systemOf(2, ruleOf("a", "a")), true},
		{"2 a>.", systemOf(2, ruleOf("a", "")), true},
		{"2 a>. a>.", systemOf(2, ruleOf("a", ""), ruleOf("a", "")), true},
		{"4 d>abcdabcd abcdabcd>d", systemOf(4, ruleOf("d", "abcdabcd"), ruleOf("abcdabcd", "d")), true},
		{tooMany[:len(tooMany)-4], systemOf(1, slices.Repeat([]impl.Rule{ruleOf("a", "")}, 12)...), true},
		{tooMany, impl.System{}, false},
		{"", impl.System{}, false},
		{" ", impl.System{}, false},
		{".", impl.System{}, false},
		{"0", impl.System{}, false},
		{"5", impl.System{}, false},
		{"-1", impl.System{}, false},
		{"0 a>.", impl.System{}, false},
		{"5 a>.", impl.System{}, false},
		{"9223372036854775807", impl.System{}, false},
		{"18446744073709551618", impl.System{}, false},
		{"+2", impl.System{}, false},
		{"02", impl.System{}, false},
		{"-0", impl.System{}, false},
		{"2.", impl.System{}, false},
		{"x ba>ab", impl.System{}, false},
		{"02 ba>ab", impl.System{}, false},
		{"+2 ba>ab", impl.System{}, false},
		{" 2 ba>ab", impl.System{}, false},
		{"2 ba>ab ", impl.System{}, false},
		{"2  ba>ab", impl.System{}, false},
		{"2 a>.  b>.", impl.System{}, false},
		{"2 ", impl.System{}, false},
		{" 2", impl.System{}, false},
		{"2\tba>ab", impl.System{}, false},
		{"2 ba>ab\n", impl.System{}, false},
		{"2ba>ab", impl.System{}, false},
		{"ba>ab", impl.System{}, false},
		{"ba>ab 2", impl.System{}, false},
		{"2 2", impl.System{}, false},
		{"2 ba", impl.System{}, false},
		{"2 ba>", impl.System{}, false},
		{"2 >ab", impl.System{}, false},
		{"2 .>a", impl.System{}, false},
		{"2 .>.", impl.System{}, false},
		{"2 a>. .>a", impl.System{}, false},
		{"2 a>b>a", impl.System{}, false},
		{"2 a > b", impl.System{}, false},
		{"1 b>a", impl.System{}, false},
		{"2 a>c", impl.System{}, false},
		{"2 c>a", impl.System{}, false},
		{"4 e>a", impl.System{}, false},
		{"2 a>. c>a b>.", impl.System{}, false},
		{"2 aaaaaaaaa>a", impl.System{}, false},
		{"2 a>aaaaaaaaa", impl.System{}, false},
		{"2 aaaaaaaaaaaaaaaaa>a", impl.System{}, false},
		{"2 a>\xff", impl.System{}, false},
		{"\xff a>b", impl.System{}, false},
		{"2\u00a0a>b", impl.System{}, false},
		{"2" + strings.Repeat(" a>b", 3000), impl.System{}, false},
	}
	for _, c := range cases {
		if got, ok := impl.ParseSystem(c.text); !equalSystems(got, c.want) || ok != c.ok {
			t.Errorf("ParseSystem(%q) = %#v, %v, want %#v, %v", c.text, got, ok, c.want, c.ok)
		}
	}
}

// checkSystemText holds ParseSystem against the pattern of a system's text and against FormatSystem.
func checkSystemText(t *testing.T, text string) {
	t.Helper()
	s, ok := impl.ParseSystem(text)
	want := patternOfSystem.MatchString(text)
	for i := 0; want && i < len(text); i++ {
		// The letters a, b and so on have the numbers 1, 2 and so on.
		want = text[i] < 'a' || text[i]-'a' < text[0]-'0'
	}
	if ok != want {
		t.Fatalf("ParseSystem(%q) = %#v, %v", text, s, ok)
	}
	if ok && (!impl.RulesOk(s) || impl.FormatSystem(s) != text) {
		t.Fatalf("ParseSystem(%q) = %#v", text, s)
	}
	if !ok && !isZeroSystem(s) {
		t.Fatalf("ParseSystem(%q) = %#v, false", text, s)
	}
}

func TestParseSystemAcceptsOnlyTextsOfSystems(t *testing.T) {
	textsOf("12ab.> ", 6, func(text string) { checkSystemText(t, text) })
	for _, text := range []string{
		"2", "4 dcba>abcd d>.", "2 ba>ab aa>. bb>.", "3 cccccccc>bbbbbbbb", "1" + strings.Repeat(" a>aa", 12), "2 a>a b>b a>a",
	} {
		checkSystemText(t, text)
		for i := 0; i <= len(text); i++ {
			for b := 0; b < 256; b++ {
				one := string([]byte{byte(b)})
				checkSystemText(t, text[:i]+one+text[i:])
				if i < len(text) {
					checkSystemText(t, text[:i]+one+text[i+1:])
					checkSystemText(t, text[:i]+text[i+1:])
				}
			}
		}
	}
}

func TestSystemsAreRecovered(t *testing.T) {
	check := func(s impl.System) {
		text := impl.FormatSystem(s)
		got, ok := impl.ParseSystem(text)
		if ok != impl.RulesOk(s) || !ok && (text != "" || !isZeroSystem(got)) {
			t.Fatalf("%#v is written as %q and read as %#v, %v", s, text, got, ok)
		}
		if ok && (!equalSystems(got, s) || !impl.SameSystem(got, s)) {
			t.Fatalf("%#v is written as %q and read as %#v", s, text, got)
		}
	}
	for _, s := range someSystems() {
		check(s)
	}
	listsOfRules(rulesOfTwoLetters(1), 3, func(list []impl.Rule) {
		for k := 0; k <= 5; k++ {
			check(systemOf(k, list...))
		}
	})
}

func TestSameSystem(t *testing.T) {
	a, b, c := ruleOf("a", ""), ruleOf("b", ""), ruleOf("ba", "ab")
	cases := []struct {
		s, t impl.System
		want bool
	}{
		{impl.System{}, impl.System{}, true},
		{impl.System{}, impl.System{Rules: []impl.Rule{}}, true},
		{impl.System{Letters: 2}, impl.System{Letters: 2, Rules: []impl.Rule{}}, true},
		{impl.System{Letters: 2}, impl.System{Letters: 2, Rules: make([]impl.Rule, 0, 5)}, true},
		{impl.System{Letters: 2}, impl.System{Letters: 3}, false},
		{impl.System{Letters: 2}, impl.System{Letters: 2, Rules: []impl.Rule{{}}}, false},
		{systemOf(2, a), systemOf(2, a), true},
		{systemOf(2, a), systemOf(3, a), false},
		{systemOf(2, a), systemOf(2, b), false},
		{systemOf(2, a), systemOf(2), false},
		{systemOf(2, c), systemOf(2, ruleOf("ab", "ba")), false},
		{systemOf(2, c), systemOf(2, ruleOf("ba", "")), false},
		{systemOf(2, a, b), systemOf(2, a, b), true},
		{systemOf(2, a, b), systemOf(2, b, a), false},
		{systemOf(2, a, b, c), systemOf(2, a, b, c), true},
		{systemOf(2, a, b, c), systemOf(2, b, c, a), false},
		{systemOf(2, a, b, c), systemOf(2, a, c, b), false},
		{systemOf(2, a, a), systemOf(2, a, a), true},
		{systemOf(2, a, a), systemOf(2, a), false},
		{systemOf(2, a, a, b), systemOf(2, a, b, b), false},
		{systemOf(2, a, a, b), systemOf(2, a, b, a), false},
		{systemOf(2, a, b, a), systemOf(2, a, b, a), true},
		{systemOf(2, a, b), systemOf(2, a, b, c), false},
		{systemOf(1, manyRules(12)...), systemOf(1, manyRules(12)...), true},
		{systemOf(1, manyRules(12)...), systemOf(1, manyRules(11)...), false},
		// These systems are not valid, and equal or not.
		{systemOf(0, a), systemOf(0, a), true},
		{systemOf(-3, a), systemOf(-3, a), true},
		{systemOf(math.MaxInt), systemOf(math.MaxInt), true},
		{systemOf(math.MaxInt), systemOf(math.MinInt), false},
		{systemOf(5, a), systemOf(6, a), false},
		{systemOf(1, ruleOf("", "z")), systemOf(1, ruleOf("", "z")), true},
		{systemOf(1, ruleOf("", "z")), systemOf(1, ruleOf(".", "z")), false},
		{systemOf(1, ruleOf("a>b", "c")), systemOf(1, ruleOf("a", "b>c")), false},
		{systemOf(1, ruleOf("\xff", "")), systemOf(1, ruleOf("\xff", "")), true},
		{systemOf(1, ruleOf("\xff", "")), systemOf(1, ruleOf("\xfe", "")), false},
		{systemOf(1, manyRules(300)...), systemOf(1, manyRules(300)...), true},
		{systemOf(1, manyRules(300)...), systemOf(1, manyRules(299)...), false},
	}
	for _, c := range cases {
		if impl.SameSystem(c.s, c.t) != c.want || impl.SameSystem(c.t, c.s) != c.want {
			t.Errorf("SameSystem(%#v, %#v) is not %v both ways", c.s, c.t, c.want)
		}
	}
}

func TestSameSystemIsEquality(t *testing.T) {
	var lists []impl.System
	listsOfRules([]impl.Rule{ruleOf("a", ""), ruleOf("b", ""), ruleOf("ba", "ab")}, 4, func(list []impl.Rule) {
		lists = append(lists, systemOf(2, list...))
	})
	lists = append(lists, someSystems()...)
	for _, s := range lists {
		for _, u := range lists {
			if got, want := impl.SameSystem(s, u), equalSystems(s, u); got != want {
				t.Fatalf("SameSystem(%#v, %#v) = %v", s, u, got)
			}
		}
	}
}

// TestSameSystemIsTheSameEachTime would see an answer that depends on the order of the keys of a map.
func TestSameSystemIsTheSameEachTime(t *testing.T) {
	rules := manyRules(12)
	turned := slices.Clone(rules)
	slices.Reverse(turned)
	for i := 0; i < 500; i++ {
		if !impl.SameSystem(systemOf(1, rules...), systemOf(1, slices.Clone(rules)...)) {
			t.Fatal("a system is not equal to itself")
		}
		if impl.SameSystem(systemOf(1, rules...), systemOf(1, turned...)) || impl.SameSystem(systemOf(1, rules...), systemOf(1, rules[:11]...)) {
			t.Fatal("different systems are equal")
		}
	}
}

// TestRuleArgumentsAreKept holds chapter 1 against the functions of chapter 4 that take a system.
func TestRuleArgumentsAreKept(t *testing.T) {
	for _, s := range someSystems() {
		spare := ruleOf("spare", "capacity")
		rules := append(slices.Clone(s.Rules), spare, spare)
		before := slices.Clone(rules)
		given := impl.System{Letters: s.Letters, Rules: rules[:len(s.Rules)]}
		impl.RulesOk(given)
		impl.SystemOk(given)
		impl.HasRule(given, spare)
		impl.LongestSide(given)
		impl.MirrorSystem(given)
		impl.FormatSystem(given)
		impl.SameSystem(given, given)
		impl.SameSystem(given, systemOf(2, spare))
		impl.SameSystem(systemOf(2, spare), given)
		if !slices.Equal(rules, before) {
			t.Errorf("the rules of %#v became %q", s, rules)
		}
	}
}

// TestRuleResultsAreNew holds chapter 1 against the functions of chapter 4 that return a system.
func TestRuleResultsAreNew(t *testing.T) {
	change := func(s impl.System) {
		for i := range s.Rules[:cap(s.Rules)] {
			s.Rules[:cap(s.Rules)][i] = ruleOf("changed", "changed")
		}
	}
	for _, text := range []string{"2 ba>ab", "2 bab>a bb>.", "1 a>.", "3 c>b b>a", "4"} {
		given, ok := impl.ParseSystem(text)
		again, _ := impl.ParseSystem(text)
		if !ok {
			t.Fatalf("ParseSystem(%q) fails", text)
		}
		mirrored, _ := impl.MirrorSystem(given)
		twice, _ := impl.MirrorSystem(given)
		want := impl.FormatSystem(mirrored)
		change(mirrored)
		if got := impl.FormatSystem(given); got != text {
			t.Errorf("%q became %q with a change of its MirrorSystem", text, got)
		}
		change(given)
		if got := impl.FormatSystem(twice); got != want {
			t.Errorf("%q became %q with a change of another result or of the argument", want, got)
		}
		if got := impl.FormatSystem(again); got != text {
			t.Errorf("%q became %q with a change of another result of ParseSystem", text, got)
		}
	}
}
