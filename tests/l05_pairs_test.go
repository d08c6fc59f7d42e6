package tests

import (
	"math"
	"runtime"
	"slices"
	"strings"
	"sync"
	"testing"
	"time"

	"loop.example/g03201/impl"
)

func pairOf(word string, first, second impl.Step) impl.Pair {
	return impl.Pair{Word: word, First: first, Second: second}
}

// pairAt is a pair as chapter 6 has them: the rule i at the place 0 and the rule j at another one.
func pairAt(word string, i, j, place int) impl.Pair {
	return pairOf(word, stepOf(i, 0), stepOf(j, place))
}

// ordered is the system of a text that must be an ordered one.
func ordered(t *testing.T, text string) impl.System {
	t.Helper()
	s := parsed(t, text)
	if !impl.SystemOk(s) {
		t.Fatalf("%q is not ordered", text)
	}
	return s
}

func orderedRules(n int) []impl.Rule {
	var list []impl.Rule
	for _, r := range rulesOfTwoLetters(n) {
		if lessByBytes(r.Right, r.Left) {
			list = append(list, r)
		}
	}
	return list
}

// mergedWord is the word of u and of v from the place on, if they fit together.
func mergedWord(u, v string, place int) (string, bool) {
	both := min(len(u)-place, len(v))
	if u[place:place+both] != v[:both] {
		return "", false
	}
	return u + v[both:], true
}

// pairsByPlaces are the pairs in their order, found without PlacesOf and OverlapsOf: a greater place is a shorter overlap.
func pairsByPlaces(s impl.System) []impl.Pair {
	var list []impl.Pair
	for i, r := range s.Rules {
		for j, q := range s.Rules {
			var inside, behind []impl.Pair
			for place := range len(r.Left) {
				w, ok := mergedWord(r.Left, q.Left, place)
				if !ok {
					continue
				}
				if place+len(q.Left) <= len(r.Left) {
					inside = append(inside, pairAt(w, i, j, place))
				} else if place > 0 {
					behind = append(behind, pairAt(w, i, j, place))
				}
			}
			if i != j {
				list = append(list, inside...)
			}
			slices.Reverse(behind)
			// Both steps at the same end are no overlap: one Left has to go on behind the other.
			list = append(list, behind...)
		}
	}
	return list
}

// joinedByAllSteps reduces both words with a search for all steps each time.
func joinedByAllSteps(s impl.System, p impl.Pair) bool {
	_, first := reduced(s, cut(s, p.Word, p.First), firstOf)
	_, second := reduced(s, cut(s, p.Word, p.Second), firstOf)
	return first == second
}

// interreducedBySteps asks for the rules that apply to each side.
func interreducedBySteps(s impl.System) bool {
	for i, r := range s.Rules {
		for _, x := range stepsByPrefix(s, r.Left) {
			if x.Rule != i {
				return false
			}
		}
		if len(stepsByPrefix(s, r.Right)) > 0 {
			return false
		}
	}
	return true
}

// checkPairs holds the functions of chapter 6 against the pairs of an ordered system.
func checkPairs(t *testing.T, s impl.System) {
	t.Helper()
	want := pairsByPlaces(s)
	if got := impl.PairsOf(s); !slices.Equal(got, want) {
		t.Fatalf("PairsOf(%#v) = %v, want %v", s, got, want)
	}
	var open []impl.Pair
	for _, p := range want {
		first, second := cut(s, p.Word, p.First), cut(s, p.Word, p.Second)
		if a, b, ok := impl.SidesOf(s, p); a != first || b != second || !ok {
			t.Fatalf("SidesOf(%#v, %v) = %q, %q, %v, want %q, %q", s, p, a, b, ok, first, second)
		}
		joined := joinedByAllSteps(s, p)
		if !joined {
			open = append(open, p)
		}
		if got := impl.IsJoined(s, p); got != joined {
			t.Fatalf("IsJoined(%#v, %v) = %v", s, p, got)
		}
	}
	if got := impl.OpenPairs(s); !slices.Equal(got, open) {
		t.Fatalf("OpenPairs(%#v) = %v, want %v", s, got, open)
	}
	if n, m := impl.CountPairs(s); n != len(want) || m != len(open) {
		t.Fatalf("CountPairs(%#v) = %d, %d, want %d, %d", s, n, m, len(want), len(open))
	}
	if got := impl.IsComplete(s); got != (len(open) == 0) {
		t.Fatalf("IsComplete(%#v) = %v with the open pairs %v", s, got, open)
	}
	if got := impl.IsInterreduced(s); got != interreducedBySteps(s) {
		t.Fatalf("IsInterreduced(%#v) = %v", s, got)
	}
}

// failsToPair checks that no function of chapter 6 takes the system.
func failsToPair(t *testing.T, s impl.System, pairs []impl.Pair) {
	t.Helper()
	if got := impl.PairsOf(s); len(got) != 0 {
		t.Errorf("PairsOf(%#v) = %v", s, got)
	}
	if got := impl.OpenPairs(s); len(got) != 0 {
		t.Errorf("OpenPairs(%#v) = %v", s, got)
	}
	if n, m := impl.CountPairs(s); n != 0 || m != 0 {
		t.Errorf("CountPairs(%#v) = %d, %d", s, n, m)
	}
	if impl.IsComplete(s) {
		t.Errorf("IsComplete(%#v) is true", s)
	}
	if impl.IsInterreduced(s) {
		t.Errorf("IsInterreduced(%#v) is true", s)
	}
	for _, p := range pairs {
		failsToSplit(t, s, p)
	}
}

func failsToSplit(t *testing.T, s impl.System, p impl.Pair) {
	t.Helper()
	if a, b, ok := impl.SidesOf(s, p); a != "" || b != "" || ok {
		t.Errorf("SidesOf(%#v, %#v) = %q, %q, %v", s, p, a, b, ok)
	}
	if impl.IsJoined(s, p) {
		t.Errorf("IsJoined(%#v, %#v) is true", s, p)
	}
}

func TestPairsOf(t *testing.T) {
	cases := []struct {
		system string
		want   []impl.Pair
	}{
		{"1", nil},
		{"4", nil},
		// One rule, without an overlap, and with one or several of itself.
		{"2 ba>ab", nil},
		{"1 a>.", nil},
		{"2 ab>b", nil},
		{"4 dcba>abcd", nil},
		{"1 aa>.", []impl.Pair{pairAt("aaa", 0, 0, 1)}},
		{"1 aaa>.", []impl.Pair{pairAt("aaaaa", 0, 0, 2), pairAt("aaaa", 0, 0, 1)}},
		{"2 aba>b", []impl.Pair{pairAt("ababa", 0, 0, 2)}},
		{"2 babab>a", []impl.Pair{pairAt("babababab", 0, 0, 4), pairAt("bababab", 0, 0, 2)}},
		{"2 abab>a", []impl.Pair{pairAt("ababab", 0, 0, 2)}},
		// Overlaps in one direction, in both, and none.
		{"2 aa>. bb>.", []impl.Pair{pairAt("aaa", 0, 0, 1), pairAt("bbb", 1, 1, 1)}},
		{"3 ab>c bc>a", []impl.Pair{pairAt("abc", 0, 1, 1)}},
		{"3 bc>a ab>c", []impl.Pair{pairAt("abc", 1, 0, 1)}},
		{"2 ab>. ba>.", []impl.Pair{pairAt("aba", 0, 1, 1), pairAt("bab", 1, 0, 1)}},
		{"3 cb>bc ca>ac ba>ab", []impl.Pair{pairAt("cba", 0, 2, 1)}},
		{"2 aab>. abb>.", []impl.Pair{pairAt("aabb", 0, 1, 1)}},
		{"2 abab>. baba>.", []impl.Pair{
			pairAt("ababab", 0, 0, 2), pairAt("abababa", 0, 1, 3), pairAt("ababa", 0, 1, 1),
			pairAt("bababab", 1, 0, 3), pairAt("babab", 1, 0, 1), pairAt("bababa", 1, 1, 2),
		}},
		// A Left in the middle of another one, at its beginning, at its end, and at several places.
		{"2 aba>a b>.", []impl.Pair{pairAt("ababa", 0, 0, 2), pairAt("aba", 0, 1, 1)}},
		{"2 b>. aba>a", []impl.Pair{pairAt("aba", 1, 0, 1), pairAt("ababa", 1, 1, 2)}},
		{"2 bba>a b>.", []impl.Pair{pairAt("bba", 0, 1, 0), pairAt("bba", 0, 1, 1)}},
		{"2 abb>a b>.", []impl.Pair{pairAt("abb", 0, 1, 1), pairAt("abb", 0, 1, 2)}},
		{"2 ba>ab b>a", []impl.Pair{pairAt("ba", 0, 1, 0)}},
		{"2 ba>ab a>.", []impl.Pair{pairAt("ba", 0, 1, 1)}},
		{"2 bab>a b>.", []impl.Pair{pairAt("babab", 0, 0, 2), pairAt("bab", 0, 1, 0), pairAt("bab", 0, 1, 2)}},
		// The occurrences before the overlaps, each ascending: the places rise, then the lengths of the overlaps do.
		{"1 aaaa>. aa>.", []impl.Pair{
			pairAt("aaaaaaa", 0, 0, 3), pairAt("aaaaaa", 0, 0, 2), pairAt("aaaaa", 0, 0, 1),
			pairAt("aaaa", 0, 1, 0), pairAt("aaaa", 0, 1, 1), pairAt("aaaa", 0, 1, 2), pairAt("aaaaa", 0, 1, 3),
			pairAt("aaaaa", 1, 0, 1), pairAt("aaa", 1, 1, 1),
		}},
		{"2 ababa>. aba>.", []impl.Pair{
			pairAt("ababababa", 0, 0, 4), pairAt("abababa", 0, 0, 2),
			pairAt("ababa", 0, 1, 0), pairAt("ababa", 0, 1, 2), pairAt("abababa", 0, 1, 4),
			pairAt("abababa", 1, 0, 2), pairAt("ababa", 1, 1, 2),
		}},
		// Two rules with one Left, and a rule twice.
		{"2 ba>ab ba>a", []impl.Pair{pairAt("ba", 0, 1, 0), pairAt("ba", 1, 0, 0)}},
		{"2 ba>ab ba>ab", []impl.Pair{pairAt("ba", 0, 1, 0), pairAt("ba", 1, 0, 0)}},
		{"1 a>. a>.", []impl.Pair{pairAt("a", 0, 1, 0), pairAt("a", 1, 0, 0)}},
		{"1 aa>. aa>a", []impl.Pair{
			pairAt("aaa", 0, 0, 1), pairAt("aa", 0, 1, 0), pairAt("aaa", 0, 1, 1),
			pairAt("aa", 1, 0, 0), pairAt("aaa", 1, 0, 1), pairAt("aaa", 1, 1, 1),
		}},
		{"2 b>a b>. b>a", []impl.Pair{
			pairAt("b", 0, 1, 0), pairAt("b", 0, 2, 0), pairAt("b", 1, 0, 0), pairAt("b", 1, 2, 0), pairAt("b", 2, 0, 0), pairAt("b", 2, 1, 0),
		}},
		// The Rights give no pairs.
		{"3 cab>bab bb>aa", []impl.Pair{pairAt("cabb", 0, 1, 2), pairAt("bbb", 1, 1, 1)}},
		// Lefts of MaxSide letters.
		{"2 bbbbbbbb>aaaaaaaa", []impl.Pair{
			pairAt("bbbbbbbbbbbbbbb", 0, 0, 7), pairAt("bbbbbbbbbbbbbb", 0, 0, 6), pairAt("bbbbbbbbbbbbb", 0, 0, 5), pairAt("bbbbbbbbbbbb", 0, 0, 4),
			pairAt("bbbbbbbbbbb", 0, 0, 3), pairAt("bbbbbbbbbb", 0, 0, 2), pairAt("bbbbbbbbb", 0, 0, 1),
		}},
		{"3 aaaaaaab>. baaaaaac>.", []impl.Pair{pairAt("aaaaaaabaaaaaac", 0, 1, 7)}},
		{"3 baaaaaac>. aaaaaaab>.", []impl.Pair{pairAt("aaaaaaabaaaaaac", 1, 0, 7)}},
		{"4 cabcdabc>. abcdabcd>.", []impl.Pair{
			pairAt("cabcdabcabcdabc", 0, 0, 7), pairAt("cabcdabcdabcd", 0, 1, 5), pairAt("cabcdabcd", 0, 1, 1), pairAt("abcdabcdabcd", 1, 1, 4),
		}},
		{"4 cdabcdab>. abcdabcd>.", []impl.Pair{
			pairAt("cdabcdabcdab", 0, 0, 4), pairAt("cdabcdabcdabcd", 0, 1, 6), pairAt("cdabcdabcd", 0, 1, 2),
			pairAt("abcdabcdabcdab", 1, 0, 6), pairAt("abcdabcdab", 1, 0, 2), pairAt("abcdabcdabcd", 1, 1, 4),
		}},
	}
	for _, c := range cases {
		if got := impl.PairsOf(ordered(t, c.system)); !slices.Equal(got, c.want) {
			t.Errorf("PairsOf(%q) = %v, want %v", c.system, got, c.want)
		}
	}
}

// TestPairsAreAllInOrder holds chapter 6 against all lists of few short rules, and against longer systems.
func TestPairsAreAllInOrder(t *testing.T) {
	listsOfRules(orderedRules(2), 3, func(list []impl.Rule) { checkPairs(t, systemOf(2, list...)) })
	listsOfRules(orderedRules(3), 2, func(list []impl.Rule) { checkPairs(t, systemOf(2, list...)) })
	for _, s := range longSystems(t) {
		checkPairs(t, s)
	}
	for n := range 13 {
		checkPairs(t, systemOf(1, manyRules(n)...))
		checkPairs(t, systemOf(1, slices.Repeat([]impl.Rule{ruleOf("aaaaaaaa", "a")}, n)...))
	}
}

func TestManyPairs(t *testing.T) {
	// Each of 144 pairs of rules has 7 overlaps, and each of 132 pairs of different rules one place.
	s := systemOf(2, slices.Repeat([]impl.Rule{ruleOf("bbbbbbbb", "")}, 12)...)
	if n, m := impl.CountPairs(s); n != 1140 || m != 0 {
		t.Errorf("CountPairs of a rule that is 12 times in a system = %d, %d", n, m)
	}
	s.Rules[11].Right = "a"
	if n, m := impl.CountPairs(s); n != 1140 || m != 11*2*8+7 {
		t.Errorf("CountPairs with another Right = %d, %d", n, m)
	}
	if impl.IsComplete(s) {
		t.Error("a system with another Right is complete")
	}
}

// commonLetters is the number of letters on which both steps work.
func commonLetters(s impl.System, p impl.Pair) int {
	firstEnd := p.First.Place + len(s.Rules[p.First.Rule].Left)
	secondEnd := p.Second.Place + len(s.Rules[p.Second.Rule].Left)
	return min(firstEnd, secondEnd) - max(p.First.Place, p.Second.Place)
}

// TestStepsOfPairsHaveLettersInCommon holds the first part of P2 for pairs.
func TestStepsOfPairsHaveLettersInCommon(t *testing.T) {
	check := func(s impl.System) {
		seen := map[impl.Pair]bool{}
		for _, p := range impl.PairsOf(s) {
			steps := impl.StepsOf(s, p.Word)
			if !slices.Contains(steps, p.First) || !slices.Contains(steps, p.Second) || p.First == p.Second {
				t.Fatalf("the steps of %v are not two of %v", p, steps)
			}
			if p.First.Place != 0 || commonLetters(s, p) < 1 || !impl.WordOk(s.Letters, p.Word) {
				t.Fatalf("%v has no letter in common, another place or another word with %#v", p, s)
			}
			if end := p.Second.Place + len(s.Rules[p.Second.Rule].Left); len(p.Word) != max(end, len(s.Rules[p.First.Rule].Left)) {
				t.Fatalf("%v has letters on which no step works, with %#v", p, s)
			}
			if seen[p] {
				t.Fatalf("PairsOf(%#v) has %v twice", s, p)
			}
			seen[p] = true
		}
	}
	listsOfRules(orderedRules(3), 2, func(list []impl.Rule) { check(systemOf(2, list...)) })
	for _, s := range longSystems(t) {
		check(s)
	}
	for n := range 13 {
		check(systemOf(1, manyRules(n)...))
	}
}

// TestTwoStepsOfWordsArePairs takes any two steps of any word: with letters in common, the part on which they work is a pair.
func TestTwoStepsOfWordsArePairs(t *testing.T) {
	check := func(s impl.System, w string, pairs []impl.Pair) {
		steps := stepsByPrefix(s, w)
		for _, x := range steps {
			for _, y := range steps {
				p := pairOf("", x, y)
				if x == y || x.Place > y.Place || commonLetters(s, p) < 1 {
					continue
				}
				xEnd, yEnd := x.Place+len(s.Rules[x.Rule].Left), y.Place+len(s.Rules[y.Rule].Left)
				if x.Place == y.Place && xEnd < yEnd {
					// The longer Left comes first, and is found as x itself.
					continue
				}
				want := pairAt(w[x.Place:max(xEnd, yEnd)], x.Rule, y.Rule, y.Place-x.Place)
				if !slices.Contains(pairs, want) {
					t.Fatalf("PairsOf(%#v) = %v has no %v", s, pairs, want)
				}
			}
		}
	}
	listsOfRules(orderedRules(2), 2, func(list []impl.Rule) {
		s := systemOf(2, list...)
		pairs := impl.PairsOf(s)
		textsOf("ab", 5, func(w string) { check(s, w, pairs) })
	})
	for _, s := range longSystems(t) {
		pairs := impl.PairsOf(s)
		for _, w := range wordsWith(s, 6) {
			check(s, w, pairs)
		}
	}
}

func TestSystemsWithoutOrderHaveNoPairs(t *testing.T) {
	words := append(oddTexts(), "", "a", "aa", "ab", "ba", "bab", "aaaaaaaaa", strings.Repeat("a", 16))
	for _, s := range append(invalidSystems(), unorderedSystems()...) {
		var pairs []impl.Pair
		for _, w := range words {
			steps := stepsByPrefix(s, w)
			if len(steps) > 40 {
				steps = steps[:40]
			}
			for _, x := range steps {
				for _, y := range steps {
					pairs = append(pairs, pairOf(w, x, y))
				}
			}
			pairs = append(pairs, pairOf(w, impl.Step{}, impl.Step{}))
		}
		failsToPair(t, s, pairs)
	}
	// One rule that is not ordered is enough, also if no pair has it.
	aaa := pairAt("aaa", 0, 0, 1)
	for _, text := range []string{"2 aa>. a>b", "2 aa>. b>b", "2 aa>. ab>ba", "2 aa>. b>aa"} {
		failsToPair(t, parsed(t, text), []impl.Pair{aaa})
	}
	for _, s := range []impl.System{
		systemOf(2, ruleOf("aa", ""), ruleOf("", "")), systemOf(1, ruleOf("aa", ""), ruleOf("b", "")), systemOf(2, ruleOf("aa", ""), ruleOf("b\xff", "")),
		systemOf(0, ruleOf("aa", "")), systemOf(5, ruleOf("aa", "")), systemOf(2, slices.Repeat([]impl.Rule{ruleOf("aa", "")}, 13)...),
	} {
		failsToPair(t, s, []impl.Pair{aaa})
	}
}

func TestSidesOf(t *testing.T) {
	long := strings.Repeat("a", 17)
	cases := []struct {
		system        string
		p             impl.Pair
		first, second string
		ok            bool
	}{
		{"2 aa>b", pairAt("aaa", 0, 0, 1), "ba", "ab", true},
		{"1 aa>.", pairAt("aaa", 0, 0, 1), "a", "a", true},
		{"1 aa>.", pairAt("aa", 0, 0, 0), "", "", true},
		{"3 cb>bc ca>ac ba>ab", pairAt("cba", 0, 2, 1), "bca", "cab", true},
		{"2 aba>a b>.", pairAt("aba", 0, 1, 1), "a", "aa", true},
		{"2 ba>ab ba>a", pairAt("ba", 1, 0, 0), "a", "ab", true},
		{"2 b>a b>.", pairAt("b", 0, 1, 0), "a", "", true},
		{"2 b>a b>.", pairAt("b", 1, 0, 0), "", "a", true},
		// Steps of other places: First behind Second, apart from each other, with letters around them.
		{"2 aa>b", pairOf("aaa", stepOf(0, 1), stepOf(0, 0)), "ab", "ba", true},
		{"2 aa>b", pairOf("aaaa", stepOf(0, 0), stepOf(0, 2)), "baa", "aab", true},
		{"2 ba>ab", pairOf("abaaba", stepOf(0, 4), stepOf(0, 1)), "abaaab", "aababa", true},
		// A step does not fit.
		{"2 aa>b", pairAt("aab", 0, 0, 1), "", "", false},
		{"2 aa>b", pairAt("baa", 0, 0, 1), "", "", false},
		{"2 aa>b", pairAt("aaa", 0, 0, 2), "", "", false},
		{"2 aa>b", pairAt("aaa", 0, 0, 3), "", "", false},
		{"2 aa>b", pairAt("aaa", 0, 0, 4), "", "", false},
		{"2 aa>b", pairAt("", 0, 0, 0), "", "", false},
		{"2", pairAt("aaa", 0, 0, 1), "", "", false},
		{"2", pairAt("", 0, 0, 0), "", "", false},
		// Strings that are no words with the letters of the system.
		{"2 aa>b", pairAt("aaac", 0, 0, 1), "bac", "abc", true},
		{"1 aa>.", pairOf("baaab", stepOf(0, 1), stepOf(0, 2)), "bab", "bab", true},
		{"2 aa>b", pairOf("\xffaaa\x80", stepOf(0, 1), stepOf(0, 2)), "\xffba\x80", "\xffab\x80", true},
		{"2 aa>b", pairOf("éaaa", stepOf(0, 2), stepOf(0, 3)), "éba", "éab", true},
		{"2 aa>b", pairOf("éaaa", stepOf(0, 1), stepOf(0, 3)), "", "", false},
		{"2 aa>b", pairOf("AAA", stepOf(0, 0), stepOf(0, 1)), "", "", false},
		// Results of MaxWord bytes, and of one more.
		{"1 aa>a", pairAt(long, 0, 0, 15), long[1:], long[1:], true},
		{"1 aa>a", pairAt(long+"a", 0, 0, 16), "", "", false},
		{"1 aa>. aa>a", pairAt(long, 0, 1, 15), long[2:], long[1:], true},
		{"1 aa>. aa>a", pairAt(long+"a", 0, 1, 16), "", "", false},
		{"1 aa>. aa>a", pairAt(long+"a", 1, 0, 16), "", "", false},
		{"2 b>a", pairOf("b"+long[2:]+"b", stepOf(0, 0), stepOf(0, 16)), "", "", false},
		{"2 b>a", pairOf("b"+long[3:]+"b", stepOf(0, 0), stepOf(0, 15)), long[2:] + "b", "b" + long[2:], true},
		{"1 aaaaaaaa>.", pairAt(strings.Repeat("a", 24), 0, 0, 16), long[1:], long[1:], true},
		{"1 aaaaaaaa>.", pairAt(strings.Repeat("a", 25), 0, 0, 17), "", "", false},
		{"2 b>a", pairAt(strings.Repeat("b", 1000), 0, 0, 999), "", "", false},
	}
	for _, c := range cases {
		first, second, ok := impl.SidesOf(ordered(t, c.system), c.p)
		if first != c.first || second != c.second || ok != c.ok {
			t.Errorf("SidesOf(%q, %v) = %q, %q, %v, want %q, %q, %v", c.system, c.p, first, second, ok, c.first, c.second, c.ok)
		}
	}
}

// TestPairsWithWrongSteps puts each wrong step in place of First and of Second.
func TestPairsWithWrongSteps(t *testing.T) {
	s := ordered(t, "2 aa>. ab>a")
	for _, x := range []impl.Step{
		stepOf(-1, 0), stepOf(2, 0), stepOf(12, 0), stepOf(math.MaxInt, 0), stepOf(math.MinInt, 0),
		stepOf(0, -1), stepOf(0, 2), stepOf(0, 3), stepOf(0, 4), stepOf(0, math.MaxInt), stepOf(0, math.MinInt),
		stepOf(1, 0), stepOf(1, 1), stepOf(-1, -1), stepOf(math.MaxInt, math.MaxInt), stepOf(math.MinInt, math.MinInt),
	} {
		failsToSplit(t, s, pairOf("aaa", x, stepOf(0, 0)))
		failsToSplit(t, s, pairOf("aaa", stepOf(0, 0), x))
		failsToSplit(t, s, pairOf("aaa", x, x))
		failsToSplit(t, s, pairOf("", x, x))
	}
}

func TestIsJoined(t *testing.T) {
	long := strings.Repeat("a", 17)
	cases := []struct {
		system string
		p      impl.Pair
		want   bool
	}{
		{"1 aaa>.", pairAt("aaaa", 0, 0, 1), true},
		{"2 aa>b", pairAt("aaa", 0, 0, 1), false},
		{"2 aa>b ba>ab", pairAt("aaa", 0, 0, 1), true},
		{"3 cb>bc ca>ac ba>ab", pairAt("cba", 0, 2, 1), true},
		{"3 cb>bc ba>ab", pairAt("cba", 0, 1, 1), false},
		{"2 b>a b>.", pairAt("b", 0, 1, 0), false},
		{"2 b>a b>. a>.", pairAt("b", 0, 1, 0), true},
		// The NormalForms decide, where the FarForms say the opposite.
		{"2 b>a aba>b", pairAt("ababa", 1, 1, 2), false},
		{"2 aa>. aba>aab", pairAt("abaa", 1, 0, 2), false},
		{"2 aa>. baa>ba", pairAt("baaa", 1, 0, 2), true},
		// Pairs that are not of PairsOf: one step twice, steps without a common letter, other places, and more letters.
		{"2 aa>b", pairAt("aaa", 0, 0, 0), true},
		{"2 aa>b", pairOf("aaa", stepOf(0, 1), stepOf(0, 1)), true},
		{"2 aa>b", pairOf("aaa", stepOf(0, 1), stepOf(0, 0)), false},
		{"2 aa>b", pairAt("aaaa", 0, 0, 2), true},
		{"2 aa>b", pairAt("aaaa", 0, 0, 1), false},
		{"2 ba>ab", pairOf("abaaba", stepOf(0, 4), stepOf(0, 1)), true},
		{"1 aaa>.", pairOf("aaaaaaa", stepOf(0, 1), stepOf(0, 3)), true},
		{"2 aa>b", pairAt("aab", 0, 0, 1), false},
		{"2 aa>b", pairAt("", 0, 0, 0), false},
		{"2", pairAt("", 0, 0, 0), false},
		// The words after the steps are no words, so that they have no form that could be the same.
		{"1 aa>.", pairOf("baaab", stepOf(0, 1), stepOf(0, 2)), false},
		{"2 aa>.", pairAt("aaac", 0, 0, 1), false},
		{"2 aa>.", pairAt("aaac", 0, 0, 0), false},
		{"2 aa>.", pairOf("\xffaaa", stepOf(0, 1), stepOf(0, 2)), false},
		{"2 aa>.", pairOf("aaaé", stepOf(0, 0), stepOf(0, 1)), false},
		// The word is none, but those after the steps are.
		{"1 aa>a", pairAt(long, 0, 0, 15), true},
		{"1 aa>a", pairAt(long+"a", 0, 0, 16), false},
		{"2 bb>a", pairOf("bbb"+long[3:], stepOf(0, 0), stepOf(0, 1)), false},
		{"2 bb>b", pairOf("bbb"+long[3:], stepOf(0, 0), stepOf(0, 1)), true},
	}
	for _, c := range cases {
		if got := impl.IsJoined(ordered(t, c.system), c.p); got != c.want {
			t.Errorf("IsJoined(%q, %v) = %v", c.system, c.p, got)
		}
	}
}

func TestOpenPairsAndIsComplete(t *testing.T) {
	cases := []struct {
		system string
		count  int
		open   []impl.Pair
	}{
		{"1", 0, nil},
		{"4", 0, nil},
		{"2 ba>ab", 0, nil},
		{"1 a>.", 0, nil},
		{"1 aaa>.", 2, nil},
		{"2 aa>b ba>ab", 2, nil},
		{"3 cb>bc ca>ac ba>ab", 1, nil},
		{"2 aa>a bb>b", 2, nil},
		{"4 ac>. ca>. bd>. db>.", 4, nil},
		{"2 ba>ab ba>ab", 2, nil},
		{"2 aa>b", 1, []impl.Pair{pairAt("aaa", 0, 0, 1)}},
		{"3 cb>bc ba>ab", 1, []impl.Pair{pairAt("cba", 0, 1, 1)}},
		{"2 b>a b>.", 2, []impl.Pair{pairAt("b", 0, 1, 0), pairAt("b", 1, 0, 0)}},
		{"2 ab>. ba>a", 2, []impl.Pair{pairAt("aba", 0, 1, 1), pairAt("bab", 1, 0, 1)}},
		// One open pair, before, between and behind pairs that are joined.
		{"3 aa>b bbb>b ccc>c", 5, []impl.Pair{pairAt("aaa", 0, 0, 1)}},
		{"3 bbb>b aa>b ccc>c", 5, []impl.Pair{pairAt("aaa", 1, 1, 1)}},
		{"3 bbb>b ccc>c aa>b", 5, []impl.Pair{pairAt("aaa", 2, 2, 1)}},
		// Of the pairs of one rule with itself, one, both or none is open.
		{"2 aabaa>a", 2, []impl.Pair{pairAt("aabaabaa", 0, 0, 3)}},
		{"2 bbb>bab", 2, []impl.Pair{pairAt("bbbb", 0, 0, 1)}},
		{"2 aaa>b", 2, []impl.Pair{pairAt("aaaaa", 0, 0, 2), pairAt("aaaa", 0, 0, 1)}},
		{"2 babab>b", 2, nil},
		{"2 aba>b", 1, []impl.Pair{pairAt("ababa", 0, 0, 2)}},
	}
	for _, c := range cases {
		s := ordered(t, c.system)
		if got := impl.OpenPairs(s); !slices.Equal(got, c.open) {
			t.Errorf("OpenPairs(%q) = %v, want %v", c.system, got, c.open)
		}
		if got := impl.IsComplete(s); got != (len(c.open) == 0) {
			t.Errorf("IsComplete(%q) = %v", c.system, got)
		}
		if n, m := impl.CountPairs(s); n != c.count || m != len(c.open) {
			t.Errorf("CountPairs(%q) = %d, %d, want %d, %d", c.system, n, m, c.count, len(c.open))
		}
	}
}

// reducedForms is the number of the reduced words that are reached from w with any steps.
func reducedForms(s impl.System, w string) int {
	reached := map[string]bool{}
	reachedBySteps(s, w, reached)
	n := 0
	for v := range reached {
		if len(stepsByPrefix(s, v)) == 0 {
			n++
		}
	}
	return n
}

// TestCompleteSystemsHaveOneReducedForm holds the second part of P2 for pairs: no word that is shorter than two Lefts has two reduced forms.
func TestCompleteSystemsHaveOneReducedForm(t *testing.T) {
	check := func(s impl.System, n int) {
		want := true
		textsOf("abcd"[:s.Letters], n, func(w string) {
			want = want && reducedForms(s, w) == 1
		})
		if got := impl.IsComplete(s); got != want {
			t.Fatalf("IsComplete(%#v) = %v", s, got)
		}
		if got := len(impl.OpenPairs(s)) == 0; got != want {
			t.Fatalf("OpenPairs(%#v) = %v", s, impl.OpenPairs(s))
		}
	}
	listsOfRules(orderedRules(2), 3, func(list []impl.Rule) { check(systemOf(2, list...), 4) })
	listsOfRules(orderedRules(3), 2, func(list []impl.Rule) { check(systemOf(2, list...), 5) })
	for _, text := range []string{"3 cb>bc ca>ac ba>ab", "3 ab>c bc>a", "3 ab>. ba>. cc>c", "3 ab>. ba>c", "4 ac>. ca>. bd>. db>.", "4 ba>ac ca>bc bd>ad cd>bd"} {
		check(ordered(t, text), 4)
	}
}

func TestIsInterreduced(t *testing.T) {
	cases := []struct {
		system string
		want   bool
	}{
		{"1", true},
		{"4", true},
		{"1 a>.", true},
		{"2 ba>ab", true},
		{"1 aa>a", true},
		{"1 aaaaaaaa>aaaaaaa", true},
		{"3 cb>bc ca>ac ba>ab", true},
		{"2 aa>b", true},
		// A Left in another Left: at its beginning, in the middle, at its end, and the whole of it.
		{"2 aa>. aaa>b", false},
		{"2 aab>b aa>.", false},
		{"2 aa>. baa>b", false},
		{"2 bab>b a>.", false},
		{"2 a>. bab>b", false},
		{"2 ba>ab ba>a", false},
		{"2 ba>ab ba>ab", false},
		{"3 cc>a ba>ab cc>a", false},
		// A Left in another Right: at its beginning, in the middle, at its end, and the whole of it.
		{"3 ccc>ba b>a", false},
		{"3 cccc>aba b>.", false},
		{"3 b>. cccc>aba", false},
		{"3 ccc>ab b>a", false},
		{"3 cc>ba ba>ab", false},
		{"3 ba>ab cc>ba", false},
		{"2 bbbb>aba ab>a", false},
		{"2 bbbb>aaba aab>.", false},
		{"2 aab>. bbbb>aaba", false},
		{"2 bb>a a>.", false},
		{"3 c>b b>a", false},
		{"3 b>a c>b", false},
		{"3 b>a c>a", true},
		// Parts of a Left, and overlaps, are no occurrence.
		{"2 aab>ab abb>ab", true},
		{"2 aab>. abb>.", true},
		{"2 bab>aa aab>a", true},
		{"4 abcdabcd>. bcdabcda>abcd", true},
		{"4 abcdabcd>. bcdabcda>abcd dcba>abcd", true},
		{"4 abcd>. bcdabcda>d", false},
		// A Right in a Left, and two equal Rights, do not count.
		{"2 aba>b bb>a", true},
		{"2 bb>a ab>a", true},
		// Only the last rule, or only the first one, is wrong.
		{"4 a>. b>. c>. dd>d ddd>d", false},
		{"4 ddd>d dd>d a>. b>. c>.", false},
		{"4 a>. b>. c>. dd>d", true},
	}
	for _, c := range cases {
		if got := impl.IsInterreduced(ordered(t, c.system)); got != c.want {
			t.Errorf("IsInterreduced(%q) = %v", c.system, got)
		}
	}
	// A Left in its own Right is possible only in systems that are not ordered.
	for _, text := range []string{"1 a>a", "1 a>aa", "2 a>bab", "2 ab>ab", "2 a>b"} {
		if impl.IsInterreduced(parsed(t, text)) {
			t.Errorf("IsInterreduced(%q) is true", text)
		}
	}
}

// TestPairArgumentsAreKept holds chapter 1 against the functions of chapter 6.
func TestPairArgumentsAreKept(t *testing.T) {
	spare := ruleOf("b", "")
	systems := append(longSystems(t), someSystems()...)
	for _, s := range append(systems, unorderedSystems()...) {
		rules := append(slices.Clone(s.Rules), spare, spare)
		before := slices.Clone(rules)
		given := impl.System{Letters: s.Letters, Rules: rules[:len(s.Rules)]}
		for _, p := range append(impl.PairsOf(given), pairAt("aaa", 0, 0, 1), pairAt("\xff", 1, -1, 9)) {
			impl.SidesOf(given, p)
			impl.IsJoined(given, p)
		}
		impl.OpenPairs(given)
		impl.IsComplete(given)
		impl.IsInterreduced(given)
		impl.CountPairs(given)
		if !slices.Equal(rules, before) {
			t.Errorf("the rules of %#v became %q", s, rules)
		}
	}
}

// TestPairResultsAreNew changes the results, also behind their ends, and asks again.
func TestPairResultsAreNew(t *testing.T) {
	s := ordered(t, "2 aaa>b bba>ab ab>b")
	for name, pairs := range map[string]func(s impl.System) []impl.Pair{"PairsOf": impl.PairsOf, "OpenPairs": impl.OpenPairs} {
		list, other := pairs(s), pairs(s)
		want := slices.Clone(list)
		if len(want) < 2 {
			t.Fatalf("%s is %v", name, want)
		}
		for k := range list[:cap(list)] {
			list[:cap(list)][k] = pairAt("?", -9, -9, -9)
		}
		if !slices.Equal(other, want) || !slices.Equal(pairs(s), want) {
			t.Errorf("a change of %s changed another result", name)
		}
	}
	if got := impl.FormatSystem(s); got != "2 aaa>b bba>ab ab>b" {
		t.Errorf("the system became %q", got)
	}
}

// TestPairsAreTheSameEachTime asks several times at once, and with other systems in between.
func TestPairsAreTheSameEachTime(t *testing.T) {
	systems := longSystems(t)
	var wait sync.WaitGroup
	for range 8 {
		wait.Go(func() {
			for range 20 {
				for _, s := range systems {
					if got := impl.PairsOf(s); !slices.Equal(got, pairsByPlaces(s)) {
						t.Errorf("PairsOf(%#v) = %v", s, got)
					}
				}
			}
		})
	}
	wait.Wait()
}

// TestPairsLeaveNothingBehind counts what still runs after calls that could stop early, at an open pair or at a system without order.
func TestPairsLeaveNothingBehind(t *testing.T) {
	before := runtime.NumGoroutine()
	for _, text := range []string{"2 b>a b>. b>a b>.", "1 aaaaaaaa>. aaaaaaa>. aaaaaa>.", "2 bb>a", "2 ab>ba", "2 aa>a aa>b", "1"} {
		s := parsed(t, text)
		for range 50 {
			impl.PairsOf(s)
			impl.OpenPairs(s)
			impl.IsComplete(s)
			impl.CountPairs(s)
			impl.IsInterreduced(s)
		}
	}
	// What has sent its last pair may still be on its way out.
	for range 200 {
		if runtime.NumGoroutine() <= before {
			return
		}
		time.Sleep(time.Millisecond)
	}
	t.Errorf("%d goroutines became %d", before, runtime.NumGoroutine())
}
