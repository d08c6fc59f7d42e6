package tests

import (
	"math"
	"slices"
	"strings"
	"testing"

	"loop.example/g03201/impl"
)

func stepOf(rule, place int) impl.Step {
	return impl.Step{Rule: rule, Place: place}
}

// parsed is the system of a text that must be one.
func parsed(t *testing.T, text string) impl.System {
	t.Helper()
	s, ok := impl.ParseSystem(text)
	if !ok {
		t.Fatalf("ParseSystem(%q) fails", text)
	}
	return s
}

// invalidSystems are systems for which RulesOk is false, each for a reason of its own.
func invalidSystems() []impl.System {
	return []impl.System{
		{}, {Letters: 5}, {Letters: -1}, {Letters: math.MaxInt}, {Letters: math.MinInt},
		systemOf(0, ruleOf("b", "a")), systemOf(5, ruleOf("b", "a")), systemOf(-1, ruleOf("b", "a")),
		systemOf(1, ruleOf("b", "a")), systemOf(2, ruleOf("b", "c")), systemOf(2, ruleOf("b", "a"), ruleOf("", "a")),
		systemOf(2, ruleOf("b", "a"), ruleOf("", "")), systemOf(2, ruleOf("b", "a"), ruleOf("aaaaaaaaa", "a")),
		systemOf(2, ruleOf("b", "a"), ruleOf("a", "bbbbbbbbb")), systemOf(1, manyRules(13)...), systemOf(1, manyRules(500)...),
		systemOf(4, ruleOf("b", "a"), ruleOf("e", "")), systemOf(4, ruleOf("b", "a"), ruleOf("\xff", "a")), systemOf(4, ruleOf("b", "a"), ruleOf("a", "é")),
	}
}

// unorderedSystems are systems for which RulesOk is true and SystemOk is not.
func unorderedSystems() []impl.System {
	return []impl.System{
		systemOf(2, ruleOf("ab", "ba")), systemOf(2, ruleOf("a", "a")), systemOf(2, ruleOf("a", "b"), ruleOf("b", "a")),
		systemOf(2, ruleOf("ba", "ab"), ruleOf("b", "aa")), systemOf(1, ruleOf("a", "aa")), systemOf(4, ruleOf("d", "dddddddd")),
	}
}

// stepsByPrefix are the steps in their order, found without PlacesOf and without leaving early.
func stepsByPrefix(s impl.System, w string) []impl.Step {
	var list []impl.Step
	for place := 0; place <= len(w); place++ {
		for i, r := range s.Rules {
			if strings.HasPrefix(w[place:], r.Left) {
				list = append(list, stepOf(i, place))
			}
		}
	}
	return list
}

// lastOf is the step with the greatest place and, of several, the least rule.
func lastOf(list []impl.Step) impl.Step {
	last := list[0]
	for _, x := range list {
		if x.Place > last.Place || x.Place == last.Place && x.Rule < last.Rule {
			last = x
		}
	}
	return last
}

func cut(s impl.System, w string, x impl.Step) string {
	r := s.Rules[x.Rule]
	return w[:x.Place] + r.Right + w[x.Place+len(r.Left):]
}

// reduced is the trace and the last word of a reduction; choose takes a step from the list of all.
func reduced(s impl.System, w string, choose func(list []impl.Step) impl.Step) ([]impl.Step, string) {
	var trace []impl.Step
	for {
		list := stepsByPrefix(s, w)
		if len(list) == 0 {
			return trace, w
		}
		x := choose(list)
		trace = append(trace, x)
		w = cut(s, w, x)
	}
}

func firstOf(list []impl.Step) impl.Step {
	return list[0]
}

// reachedBySteps adds to set the words that are reached from w.
func reachedBySteps(s impl.System, w string, set map[string]bool) {
	if set[w] {
		return
	}
	set[w] = true
	for _, x := range stepsByPrefix(s, w) {
		reachedBySteps(s, cut(s, w, x), set)
	}
}

// smallSystems calls f with all systems of at most two rules with sides of at most two of the letters a and b and Left not empty.
func smallSystems(f func(s impl.System)) {
	var rules []impl.Rule
	for _, r := range rulesOfTwoLetters(2) {
		if r.Left != "" {
			rules = append(rules, r)
		}
	}
	listsOfRules(rules, 2, func(list []impl.Rule) { f(systemOf(2, list...)) })
}

func orderedSmallSystems(f func(s impl.System)) {
	smallSystems(func(s impl.System) {
		if impl.SystemOk(s) {
			f(s)
		}
	})
}

// longSystems are ordered systems with sides of other lengths and with more letters.
func longSystems(t *testing.T) []impl.System {
	var list []impl.System
	for _, text := range []string{
		"1", "4", "1 aa>.", "1 aaa>a", "1 aa>a aaa>.", "2 ba>ab", "2 bba>ab aa>.", "2 aab>b abb>a ba>ab", "2 aba>b bab>a", "2 bb>a bb>. bb>ba",
		"2 ba>ab ba>ab", "2 b>a bb>.", "2 bb>. b>a", "2 bbbb>aa baba>abab", "3 cb>bc ca>ac ba>ab", "3 abc>. c>b", "3 ab>. ba>. cc>c",
		"4 ac>. ca>. bd>. db>.", "4 ba>ac ca>bc bd>ad cd>bd", "4 dcba>abcd d>c", "4 abcdabcd>dcba", "2 bbbbbbbb>aaaaaaaa aaaaaaaa>.",
		"2 b>a ab>. ab>a aab>. bab>a ba>ab bba>ab bb>. aaa>a aa>. a>. bbbbbbbb>a",
	} {
		list = append(list, parsed(t, text))
	}
	return list
}

// wordsWith are all words of at most n of the system's letters, and some of MaxWord letters.
func wordsWith(s impl.System, n int) []string {
	alphabet := "abcd"[:s.Letters]
	var list []string
	textsOf(alphabet, n, func(w string) { list = append(list, w) })
	for _, part := range []string{alphabet, alphabet[s.Letters-1:], "a", alphabet[s.Letters-1:] + alphabet} {
		w := strings.Repeat(part, 16)
		list = append(list, w[:16], w[:15], w[:9])
	}
	return list
}

func TestStepsOf(t *testing.T) {
	cases := []struct {
		system string
		w      string
		want   []impl.Step
	}{
		{"2 ba>ab", "", nil},
		{"2 ba>ab", "b", nil},
		{"2 ba>ab", "ab", nil},
		{"2 ba>ab", "ba", []impl.Step{stepOf(0, 0)}},
		{"2 ba>ab", "baba", []impl.Step{stepOf(0, 0), stepOf(0, 2)}},
		{"2 ba>ab", "aba", []impl.Step{stepOf(0, 1)}},
		{"2", "abab", nil},
		{"1 a>.", "a", []impl.Step{stepOf(0, 0)}},
		{"1 a>.", "aaa", []impl.Step{stepOf(0, 0), stepOf(0, 1), stepOf(0, 2)}},
		// Places that overlap, and the very end of the word.
		{"1 aa>.", "aaaa", []impl.Step{stepOf(0, 0), stepOf(0, 1), stepOf(0, 2)}},
		{"2 aba>b", "ababa", []impl.Step{stepOf(0, 0), stepOf(0, 2)}},
		{"2 b>a", "aab", []impl.Step{stepOf(0, 2)}},
		{"2 bb>a", "aab", nil},
		{"2 abb>a", "bab", nil},
		// The place counts before the rule.
		{"2 b>. a>.", "ab", []impl.Step{stepOf(1, 0), stepOf(0, 1)}},
		{"2 b>a ba>ab", "bba", []impl.Step{stepOf(0, 0), stepOf(0, 1), stepOf(1, 1)}},
		{"2 ba>ab b>a", "bba", []impl.Step{stepOf(1, 0), stepOf(0, 1), stepOf(1, 1)}},
		{"3 c>b b>a c>a a>.", "cab", []impl.Step{stepOf(0, 0), stepOf(2, 0), stepOf(3, 1), stepOf(1, 2)}},
		// Several rules with one Left, and one rule twice.
		{"2 ba>ab ba>a ba>.", "ba", []impl.Step{stepOf(0, 0), stepOf(1, 0), stepOf(2, 0)}},
		{"2 ba>ab ba>ab", "abab", []impl.Step{stepOf(0, 1), stepOf(1, 1)}},
		// Rules that are not ordered.
		{"2 ab>ba", "abab", []impl.Step{stepOf(0, 0), stepOf(0, 2)}},
		{"2 a>a b>aa", "ab", []impl.Step{stepOf(0, 0), stepOf(1, 1)}},
		{"4 d>dddddddd", "dadb", []impl.Step{stepOf(0, 0), stepOf(0, 2)}},
		// Strings that are no words with the letters of the system.
		{"2 ba>ab", "cbac", []impl.Step{stepOf(0, 1)}},
		{"1 a>.", "bab", []impl.Step{stepOf(0, 1)}},
		{"2 ba>ab", "zz", nil},
		{"2 ba>ab", "BA", nil},
		{"2 ba>ab", "\xffba\xfeba", []impl.Step{stepOf(0, 1), stepOf(0, 4)}},
		{"2 ba>ab", "éba é", []impl.Step{stepOf(0, 2)}},
		{"2 ba>ab", "b\x80a", nil},
		{"1 a>.", "\u0161\xe1", nil},
		{"2 ba>ab", strings.Repeat("a", 16) + "ba", []impl.Step{stepOf(0, 16)}},
	}
	for _, c := range cases {
		if got := impl.StepsOf(parsed(t, c.system), c.w); !slices.Equal(got, c.want) {
			t.Errorf("StepsOf(%q, %q) = %v, want %v", c.system, c.w, got, c.want)
		}
	}
	long := strings.Repeat("ab", 5000)
	if got := impl.StepsOf(parsed(t, "2 ba>ab"), long); len(got) != 4999 || got[4998] != stepOf(0, 9997) {
		t.Errorf("StepsOf with a string of 10000 bytes has %d steps", len(got))
	}
}

func TestApplyStep(t *testing.T) {
	full := strings.Repeat("a", 15) + "b"
	long := strings.Repeat("a", 16) + "b"
	cases := []struct {
		system string
		w      string
		x      impl.Step
		want   string
		ok     bool
	}{
		{"2 ba>ab", "baba", stepOf(0, 0), "abba", true},
		{"2 ba>ab", "baba", stepOf(0, 2), "baab", true},
		{"2 ba>.", "baba", stepOf(0, 2), "ba", true},
		{"2 ba>.", "ba", stepOf(0, 0), "", true},
		{"2 aba>b", "ababa", stepOf(0, 0), "bba", true},
		{"2 aba>b", "ababa", stepOf(0, 2), "abb", true},
		{"2 b>a ba>b", "aba", stepOf(0, 1), "aaa", true},
		{"2 b>a ba>b", "aba", stepOf(1, 1), "ab", true},
		{"2 ba>ab ba>ab", "ba", stepOf(1, 0), "ab", true},
		{"2 ba>ab ba>a", "ba", stepOf(1, 0), "a", true},
		// Steps that do not fit.
		{"2 ba>ab", "baba", stepOf(0, 1), "", false},
		{"2 ba>ab", "baba", stepOf(0, 3), "", false},
		{"2 ba>ab", "ba", stepOf(0, 2), "", false},
		{"2 ba>ab", "ba", stepOf(0, 3), "", false},
		{"2 ba>ab", "ba", stepOf(0, -1), "", false},
		{"2 ba>ab", "ba", stepOf(0, -2), "", false},
		{"2 ba>ab", "ba", stepOf(1, 0), "", false},
		{"2 ba>ab", "ba", stepOf(-1, 0), "", false},
		{"2 ba>ab", "ba", stepOf(12, 0), "", false},
		{"2 ba>ab", "ba", stepOf(math.MaxInt, 0), "", false},
		{"2 ba>ab", "ba", stepOf(math.MinInt, 0), "", false},
		{"2 ba>ab", "ba", stepOf(0, math.MaxInt), "", false},
		{"2 ba>ab", "ba", stepOf(0, math.MinInt), "", false},
		{"2 ba>ab", "ba", stepOf(-1, -1), "", false},
		{"2 ba>ab", "ba", stepOf(math.MaxInt, math.MaxInt), "", false},
		{"2 ba>ab", "", stepOf(0, 0), "", false},
		{"2 ba>ab aa>.", "ba", stepOf(1, 0), "", false},
		{"2", "ba", stepOf(0, 0), "", false},
		{"2", "", stepOf(0, 0), "", false},
		// Rules that are not ordered, and the bound for the result.
		{"2 ab>ba", "abab", stepOf(0, 2), "abba", true},
		{"2 a>a", "ba", stepOf(0, 1), "ba", true},
		{"2 b>a", full, stepOf(0, 15), strings.Repeat("a", 16), true},
		{"2 b>aa", full[1:], stepOf(0, 14), strings.Repeat("a", 16), true},
		{"2 b>aa", full, stepOf(0, 15), "", false},
		{"2 b>aaa", full[1:], stepOf(0, 14), "", false},
		{"2 b>aaaaaaaa", "aaaaaaaab", stepOf(0, 8), strings.Repeat("a", 16), true},
		{"2 b>aaaaaaaa", "aaaaaaaaab", stepOf(0, 9), "", false},
		// Strings that are no words with the letters of the system.
		{"2 b>.", long, stepOf(0, 16), strings.Repeat("a", 16), true},
		{"2 b>a", long, stepOf(0, 16), "", false},
		{"2 b>.", "a" + long, stepOf(0, 17), "", false},
		{"2 bbbbbbbb>.", strings.Repeat("b", 24), stepOf(0, 16), strings.Repeat("b", 16), true},
		{"2 bbbbbbbb>.", strings.Repeat("b", 25), stepOf(0, 16), "", false},
		{"1 a>.", "bab", stepOf(0, 1), "bb", true},
		{"2 ba>ab", "\xffba\xfe", stepOf(0, 1), "\xffab\xfe", true},
		{"2 ba>ab", "éba", stepOf(0, 2), "éab", true},
		{"2 ba>ab", "éba", stepOf(0, 1), "", false},
		{"2 ba>ab", "b\x80a", stepOf(0, 0), "", false},
	}
	for _, c := range cases {
		if got, ok := impl.ApplyStep(parsed(t, c.system), c.w, c.x); got != c.want || ok != c.ok {
			t.Errorf("ApplyStep(%q, %q, %v) = %q, %v, want %q, %v", c.system, c.w, c.x, got, ok, c.want, c.ok)
		}
	}
}

func TestFirstAndLastStep(t *testing.T) {
	cases := []struct {
		system      string
		w           string
		first, last impl.Step
		ok          bool
	}{
		{"2 ba>ab", "", stepOf(0, 0), stepOf(0, 0), false},
		{"2 ba>ab", "ab", stepOf(0, 0), stepOf(0, 0), false},
		{"2", "ab", stepOf(0, 0), stepOf(0, 0), false},
		{"2 ba>ab", "ba", stepOf(0, 0), stepOf(0, 0), true},
		{"2 ba>ab", "baba", stepOf(0, 0), stepOf(0, 2), true},
		{"2 ba>ab", "abaaba", stepOf(0, 1), stepOf(0, 4), true},
		{"1 aa>.", "aaaa", stepOf(0, 0), stepOf(0, 2), true},
		{"2 b>a", "aab", stepOf(0, 2), stepOf(0, 2), true},
		// Several rules apply at the least and at the greatest place.
		{"2 ba>ab b>a bab>a", "bab", stepOf(0, 0), stepOf(1, 2), true},
		{"2 a>. b>a ba>ab bab>a", "bab", stepOf(1, 0), stepOf(1, 2), true},
		{"2 bb>. ba>ab b>a", "bba", stepOf(0, 0), stepOf(1, 1), true},
		{"2 aa>. b>a b>. ab>a", "aab", stepOf(0, 0), stepOf(1, 2), true},
		{"2 ba>ab ba>ab", "baba", stepOf(0, 0), stepOf(0, 2), true},
		{"2 aa>. ba>ab ba>a", "bab", stepOf(1, 0), stepOf(1, 0), true},
		// Rules that are not ordered, and strings that are no words with the letters of the system.
		{"2 ab>ba", "abab", stepOf(0, 0), stepOf(0, 2), true},
		{"2 a>bbb b>a", "ab", stepOf(0, 0), stepOf(1, 1), true},
		{"1 a>aa", "bab", stepOf(0, 1), stepOf(0, 1), true},
		{"2 ba>ab", "\xffba\xfeba\xff", stepOf(0, 1), stepOf(0, 4), true},
		{"2 ba>ab", "éé", stepOf(0, 0), stepOf(0, 0), false},
		{"2 ba>ab", strings.Repeat("ba", 40), stepOf(0, 0), stepOf(0, 78), true},
	}
	for _, c := range cases {
		s := parsed(t, c.system)
		if got, ok := impl.FirstStep(s, c.w); got != c.first || ok != c.ok {
			t.Errorf("FirstStep(%q, %q) = %v, %v, want %v, %v", c.system, c.w, got, ok, c.first, c.ok)
		}
		if got, ok := impl.LastStep(s, c.w); got != c.last || ok != c.ok {
			t.Errorf("LastStep(%q, %q) = %v, %v, want %v, %v", c.system, c.w, got, ok, c.last, c.ok)
		}
	}
}

// checkSteps holds the functions for single steps against the list of all steps of a valid system.
func checkSteps(t *testing.T, s impl.System, w string) {
	t.Helper()
	want := stepsByPrefix(s, w)
	if got := impl.StepsOf(s, w); !slices.Equal(got, want) {
		t.Fatalf("StepsOf(%#v, %q) = %v, want %v", s, w, got, want)
	}
	var first, last impl.Step
	if len(want) > 0 {
		first, last = want[0], lastOf(want)
	}
	if got, ok := impl.FirstStep(s, w); got != first || ok != (len(want) > 0) {
		t.Fatalf("FirstStep(%#v, %q) = %v, %v, want %v", s, w, got, ok, first)
	}
	if got, ok := impl.LastStep(s, w); got != last || ok != (len(want) > 0) {
		t.Fatalf("LastStep(%#v, %q) = %v, %v, want %v", s, w, got, ok, last)
	}
	for rule := -1; rule <= len(s.Rules); rule++ {
		for place := -1; place <= len(w)+1; place++ {
			x, next := stepOf(rule, place), ""
			ok := slices.Contains(want, x)
			if ok {
				next = cut(s, w, x)
			}
			if len(next) > 16 {
				next, ok = "", false
			}
			if got, done := impl.ApplyStep(s, w, x); got != next || done != ok {
				t.Fatalf("ApplyStep(%#v, %q, %v) = %q, %v, want %q, %v", s, w, x, got, done, next, ok)
			}
		}
	}
}

func TestStepsAreAllInOrder(t *testing.T) {
	var words []string
	textsOf("ab", 4, func(w string) { words = append(words, w) })
	words = append(words, "bacba", "\xffba\xffa", "aébb", strings.Repeat("ab", 8), strings.Repeat("ba", 8)+"b")
	smallSystems(func(s impl.System) {
		for _, w := range words {
			checkSteps(t, s, w)
		}
	})
	systems := append(longSystems(t), unorderedSystems()...)
	for _, s := range systems {
		for _, w := range append(wordsWith(s, 4), oddTexts()...) {
			checkSteps(t, s, w)
		}
	}
}

func TestInvalidSystemsHaveNoSteps(t *testing.T) {
	words := append(oddTexts(), "", "a", "b", "ba", "aaaaaaaaa", strings.Repeat("a", 16))
	for _, s := range invalidSystems() {
		for _, w := range words {
			if got := impl.StepsOf(s, w); len(got) != 0 {
				t.Errorf("StepsOf(%#v, %q) = %v", s, w, got)
			}
			if got, ok := impl.FirstStep(s, w); ok || got != (impl.Step{}) {
				t.Errorf("FirstStep(%#v, %q) = %v, %v", s, w, got, ok)
			}
			if got, ok := impl.LastStep(s, w); ok || got != (impl.Step{}) {
				t.Errorf("LastStep(%#v, %q) = %v, %v", s, w, got, ok)
			}
			for _, x := range stepsByPrefix(s, w) {
				if got, ok := impl.ApplyStep(s, w, x); ok || got != "" {
					t.Errorf("ApplyStep(%#v, %q, %v) = %q, %v", s, w, x, got, ok)
				}
				if got, ok := impl.RunSteps(s, w, []impl.Step{x}); ok || got != "" {
					t.Errorf("RunSteps(%#v, %q) with %v = %q, %v", s, w, x, got, ok)
				}
			}
		}
	}
}

// failsToReduce checks that no function of a reduction takes the arguments.
func failsToReduce(t *testing.T, s impl.System, w string) {
	t.Helper()
	if got, ok := impl.NormalForm(s, w); ok || got != "" {
		t.Errorf("NormalForm(%#v, %q) = %q, %v", s, w, got, ok)
	}
	if got, ok := impl.FarForm(s, w); ok || got != "" {
		t.Errorf("FarForm(%#v, %q) = %q, %v", s, w, got, ok)
	}
	if impl.IsReduced(s, w) {
		t.Errorf("IsReduced(%#v, %q) = true", s, w)
	}
	if got, ok := impl.TraceOf(s, w); ok || len(got) != 0 {
		t.Errorf("TraceOf(%#v, %q) = %v, %v", s, w, got, ok)
	}
	if got := impl.CountReached(s, w); got != -1 {
		t.Errorf("CountReached(%#v, %q) = %d", s, w, got)
	}
}

func TestForms(t *testing.T) {
	mixed := strings.Repeat("ab", 8)
	cases := []struct {
		system      string
		w           string
		normal, far string
		trace       []impl.Step
	}{
		{"2 ba>ab", "", "", "", nil},
		{"2 ba>ab", "aabb", "aabb", "aabb", nil},
		{"2 ba>ab", "bab", "abb", "abb", []impl.Step{stepOf(0, 0)}},
		{"2 ba>ab", "baba", "aabb", "aabb", []impl.Step{stepOf(0, 0), stepOf(0, 2), stepOf(0, 1)}},
		{"2", "", "", "", nil},
		{"2", "baba", "baba", "baba", nil},
		{"2", mixed, mixed, mixed, nil},
		{"4", "dcba", "dcba", "dcba", nil},
		{"1 aaa>.", "aaaaa", "aa", "aa", []impl.Step{stepOf(0, 0)}},
		{"1 a>.", "aaa", "", "", []impl.Step{stepOf(0, 0), stepOf(0, 0), stepOf(0, 0)}},
		{"1 aa>a", strings.Repeat("a", 16), "a", "a", slices.Repeat([]impl.Step{stepOf(0, 0)}, 15)},
		{"2 b>.", "b" + strings.Repeat("a", 15), strings.Repeat("a", 15), strings.Repeat("a", 15), []impl.Step{stepOf(0, 0)}},
		{"4 ac>. ca>. bd>. db>.", "abdcca", "", "", []impl.Step{stepOf(2, 1), stepOf(0, 0), stepOf(1, 0)}},
		// From the left and from the right, the words are others.
		{"2 ab>a ba>b", "aba", "aa", "a", []impl.Step{stepOf(0, 0)}},
		{"2 aba>b", "ababa", "bba", "abb", []impl.Step{stepOf(0, 0)}},
		{"2 bb>a", "bbb", "ab", "ba", []impl.Step{stepOf(0, 0)}},
		{"2 aa>b", "aaa", "ba", "ab", []impl.Step{stepOf(0, 0)}},
		{"3 cc>b bc>a", "ccc", "a", "cb", []impl.Step{stepOf(0, 0), stepOf(1, 0)}},
		// Of several rules at one place, the first one is taken.
		{"2 bb>a bb>.", "bb", "a", "a", []impl.Step{stepOf(0, 0)}},
		{"2 bb>. bb>a", "bb", "", "", []impl.Step{stepOf(0, 0)}},
		{"2 b>a ba>.", "ba", "aa", "aa", []impl.Step{stepOf(0, 0)}},
		{"2 ba>. b>a", "ba", "", "", []impl.Step{stepOf(0, 0)}},
		{"2 ba>ab ba>ab", "ba", "ab", "ab", []impl.Step{stepOf(0, 0)}},
	}
	for _, c := range cases {
		s := parsed(t, c.system)
		if got, ok := impl.NormalForm(s, c.w); got != c.normal || !ok {
			t.Errorf("NormalForm(%q, %q) = %q, %v, want %q", c.system, c.w, got, ok, c.normal)
		}
		if got, ok := impl.FarForm(s, c.w); got != c.far || !ok {
			t.Errorf("FarForm(%q, %q) = %q, %v, want %q", c.system, c.w, got, ok, c.far)
		}
		if got, ok := impl.TraceOf(s, c.w); !slices.Equal(got, c.trace) || !ok {
			t.Errorf("TraceOf(%q, %q) = %v, %v, want %v", c.system, c.w, got, ok, c.trace)
		}
		if got := impl.IsReduced(s, c.w); got != (len(c.trace) == 0) {
			t.Errorf("IsReduced(%q, %q) = %v", c.system, c.w, got)
		}
	}
}

func TestReductionOfInvalidArguments(t *testing.T) {
	for _, s := range append(invalidSystems(), unorderedSystems()...) {
		for _, w := range []string{"", "a", "b", "ab", "ba", "aaaaaaaa", strings.Repeat("a", 16), "c", "\xff"} {
			failsToReduce(t, s, w)
		}
	}
	for _, s := range longSystems(t) {
		for _, w := range oddTexts() {
			failsToReduce(t, s, w)
		}
		for _, w := range []string{strings.Repeat("a", 17), strings.Repeat("ba", 9), "abcd"[:s.Letters] + "abcde"[s.Letters:s.Letters+1]} {
			failsToReduce(t, s, w)
		}
	}
	// One rule that is not ordered is enough, also if it does not apply.
	failsToReduce(t, parsed(t, "2 ba>ab ab>ba"), "aa")
	failsToReduce(t, parsed(t, "2 a>a ba>ab"), "bb")
	failsToReduce(t, parsed(t, "1 aa>a aaaa>aaaaa"), "")
}

// checkReduction holds the functions of a reduction against one that searches for all steps each time.
func checkReduction(t *testing.T, s impl.System, w string) {
	t.Helper()
	trace, normal := reduced(s, w, firstOf)
	_, far := reduced(s, w, lastOf)
	if got, ok := impl.NormalForm(s, w); got != normal || !ok {
		t.Fatalf("NormalForm(%#v, %q) = %q, %v, want %q", s, w, got, ok, normal)
	}
	if got, ok := impl.FarForm(s, w); got != far || !ok {
		t.Fatalf("FarForm(%#v, %q) = %q, %v, want %q", s, w, got, ok, far)
	}
	if got := impl.IsReduced(s, w); got != (len(trace) == 0) {
		t.Fatalf("IsReduced(%#v, %q) = %v", s, w, got)
	}
	for _, form := range []string{normal, far} {
		if !impl.IsReduced(s, form) || lessByBytes(w, form) {
			t.Fatalf("%#v reduces %q to %q", s, w, form)
		}
	}
	list, ok := impl.TraceOf(s, w)
	if !slices.Equal(list, trace) || !ok {
		t.Fatalf("TraceOf(%#v, %q) = %v, %v, want %v", s, w, list, ok, trace)
	}
	if got, ok := impl.RunSteps(s, w, list); len(list) <= 1000 && (got != normal || !ok) {
		t.Fatalf("RunSteps(%#v, %q) with the TraceOf = %q, %v, want %q", s, w, got, ok, normal)
	}
}

func TestReductionEndsAtReducedWords(t *testing.T) {
	orderedSmallSystems(func(s impl.System) {
		textsOf("ab", 6, func(w string) { checkReduction(t, s, w) })
	})
	for _, s := range longSystems(t) {
		for _, w := range wordsWith(s, 5) {
			checkReduction(t, s, w)
		}
	}
}

// TestReducedWordsHaveNoLeft compares IsReduced with the Lefts alone.
func TestReducedWordsHaveNoLeft(t *testing.T) {
	for _, s := range longSystems(t) {
		for _, w := range wordsWith(s, 5) {
			want := true
			for _, r := range s.Rules {
				want = want && !strings.Contains(w, r.Left)
			}
			if got := impl.IsReduced(s, w); got != want {
				t.Fatalf("IsReduced(%#v, %q) = %v", s, w, got)
			}
		}
	}
}

// TestCompleteSystemsHaveOneForm holds systems that are known to be complete against forms that need no rules.
func TestCompleteSystemsHaveOneForm(t *testing.T) {
	sorted := func(w string) string {
		letters := []byte(w)
		slices.Sort(letters)
		return string(letters)
	}
	cases := []struct {
		system string
		form   func(w string) string
	}{
		{"1 aaa>.", func(w string) string { return w[:len(w)%3] }},
		{"2 ba>ab", sorted},
		{"3 ba>ab ca>ac cb>bc", sorted},
		{"2 aa>a bb>b", func(w string) string {
			var kept []byte
			for i := 0; i < len(w); i++ {
				if i == 0 || w[i] != w[i-1] {
					kept = append(kept, w[i])
				}
			}
			return string(kept)
		}},
		{"4 ac>. ca>. bd>. db>.", func(w string) string {
			var kept []byte
			for i := 0; i < len(w); i++ {
				if n := len(kept); n > 0 && (kept[n-1]+2 == w[i] || kept[n-1] == w[i]+2) {
					kept = kept[:n-1]
				} else {
					kept = append(kept, w[i])
				}
			}
			return string(kept)
		}},
	}
	for _, c := range cases {
		s := parsed(t, c.system)
		for _, w := range wordsWith(s, 6) {
			want := c.form(w)
			if got, ok := impl.NormalForm(s, w); got != want || !ok {
				t.Fatalf("NormalForm(%q, %q) = %q, %v, want %q", c.system, w, got, ok, want)
			}
			if got, ok := impl.FarForm(s, w); got != want || !ok {
				t.Fatalf("FarForm(%q, %q) = %q, %v, want %q", c.system, w, got, ok, want)
			}
			for _, x := range impl.StepsOf(s, w) {
				next, _ := impl.ApplyStep(s, w, x)
				if got, ok := impl.NormalForm(s, next); got != want || !ok {
					t.Fatalf("NormalForm(%q, %q) = %q, %v, but %q has %q", c.system, next, got, ok, w, want)
				}
			}
		}
	}
}

// TestLongReductions counts down with the digits a, b and c and the end d: each step takes 1 from a digit and adds 2 to the next one.
// Then the first of n digits stands for 2^n - 1 steps, the next one for 2^(n-1) - 1, and so on, and RunSteps does not take all of them at once.
func TestLongReductions(t *testing.T) {
	s := parsed(t, "4 ba>ac ca>bc bd>ad cd>bd")
	for n := 0; n <= 11; n++ {
		w, want := strings.Repeat("c", n)+"d", strings.Repeat("a", n)+"d"
		count := 2 * (2<<n - 2 - n)
		list, ok := impl.TraceOf(s, w)
		if len(list) != count || !ok {
			t.Fatalf("TraceOf %q has %d steps, %v, want %d", w, len(list), ok, count)
		}
		if got, ok := impl.NormalForm(s, w); got != want || !ok {
			t.Errorf("NormalForm of %q = %q, %v", w, got, ok)
		}
		if got, ok := impl.FarForm(s, w); got != want || !ok {
			t.Errorf("FarForm of %q = %q, %v", w, got, ok)
		}
		if got, ok := impl.RunSteps(s, w, list); ok != (count <= 1000) || !ok && got != "" {
			t.Errorf("RunSteps with %d steps = %q, %v", count, got, ok)
		}
		last := w
		for part := range slices.Chunk(list, 1000) {
			if last, ok = impl.RunSteps(s, last, part); !ok {
				t.Fatalf("a part of the trace of %q fails", w)
			}
		}
		if last != want {
			t.Errorf("the trace of %q leads to %q", w, last)
		}
	}
}

func TestRunSteps(t *testing.T) {
	long := strings.Repeat("a", 17)
	cases := []struct {
		system string
		w      string
		list   []impl.Step
		want   string
		ok     bool
	}{
		{"2 ba>ab", "ba", nil, "ba", true},
		{"2 ba>ab", "", nil, "", true},
		{"2 ba>ab", "", []impl.Step{}, "", true},
		{"2 ba>ab", "", []impl.Step{{}}, "", false},
		{"2 ba>ab", "baba", []impl.Step{stepOf(0, 2)}, "baab", true},
		{"2 ba>ab", "baba", []impl.Step{stepOf(0, 2), stepOf(0, 0)}, "abab", true},
		{"2 ba>ab", "baba", []impl.Step{stepOf(0, 0), stepOf(0, 2), stepOf(0, 1)}, "aabb", true},
		{"2 ba>ab aa>. bb>.", "baba", []impl.Step{stepOf(0, 0), stepOf(2, 1), stepOf(1, 0)}, "", true},
		// A step fails at the beginning, in the middle, or at the end.
		{"2 ba>ab", "baba", []impl.Step{stepOf(0, 1), stepOf(0, 0), stepOf(0, 2)}, "", false},
		{"2 ba>ab", "baba", []impl.Step{stepOf(0, 0), stepOf(0, 0), stepOf(0, 2)}, "", false},
		{"2 ba>ab", "baba", []impl.Step{stepOf(0, 0), stepOf(0, 2), stepOf(0, 2)}, "", false},
		{"2 ba>ab", "baba", []impl.Step{stepOf(0, 0), stepOf(1, 2), stepOf(0, 2)}, "", false},
		{"2 ba>ab", "baba", []impl.Step{stepOf(0, 0), stepOf(-1, 2), stepOf(0, 2)}, "", false},
		{"2 ba>ab", "baba", []impl.Step{stepOf(0, 0), stepOf(0, math.MinInt)}, "", false},
		{"2 ba>ab", "baba", []impl.Step{stepOf(0, 0), stepOf(math.MaxInt, math.MaxInt)}, "", false},
		// Rules that are not ordered; a word becomes too long, also if it would become short again.
		{"2 ab>ba ba>ab", "ab", []impl.Step{stepOf(0, 0), stepOf(1, 0)}, "ab", true},
		{"1 a>aa", "a", slices.Repeat([]impl.Step{{}}, 15), long[1:], true},
		{"1 a>aa", "a", slices.Repeat([]impl.Step{{}}, 16), "", false},
		{"1 a>aa aaaaaaaa>.", long[1:], []impl.Step{stepOf(0, 0), stepOf(1, 0)}, "", false},
		{"1 a>aa aaaaaaaa>.", long[1:], []impl.Step{stepOf(1, 0), stepOf(0, 0)}, "aaaaaaaaa", true},
		// Strings that are no words with the letters of the system.
		{"1 a>.", long, nil, long, true},
		{"1 a>.", long, []impl.Step{stepOf(0, 16)}, long[1:], true},
		{"1 a>.", long + "a", []impl.Step{stepOf(0, 16), stepOf(0, 16)}, "", false},
		{"1 a>.", "bab\xff", nil, "bab\xff", true},
		{"1 a>.", "ba\xffa", []impl.Step{stepOf(0, 3), stepOf(0, 1)}, "b\xff", true},
	}
	for _, c := range cases {
		if got, ok := impl.RunSteps(parsed(t, c.system), c.w, c.list); got != c.want || ok != c.ok {
			t.Errorf("RunSteps(%q, %q, %v) = %q, %v, want %q, %v", c.system, c.w, c.list, got, ok, c.want, c.ok)
		}
	}
	// Without steps, none of them fails.
	for _, s := range invalidSystems() {
		for _, w := range []string{"", "ba", "\xff", long} {
			if got, ok := impl.RunSteps(s, w, nil); got != w || !ok {
				t.Errorf("RunSteps(%#v, %q) without steps = %q, %v", s, w, got, ok)
			}
		}
	}
}

func TestRunStepsTakesThousandSteps(t *testing.T) {
	s := parsed(t, "2 a>b b>a")
	list := slices.Repeat([]impl.Step{stepOf(0, 0), stepOf(1, 0)}, 600)
	for _, n := range []int{998, 999, 1000} {
		want := "ab"[n%2 : n%2+1]
		if got, ok := impl.RunSteps(s, "a", list[:n]); got != want || !ok {
			t.Errorf("RunSteps with %d steps = %q, %v", n, got, ok)
		}
	}
	for _, n := range []int{1001, 1002, 1200} {
		if got, ok := impl.RunSteps(s, "a", list[:n]); got != "" || ok {
			t.Errorf("RunSteps with %d steps = %q, %v", n, got, ok)
		}
	}
	failing := slices.Clone(list[:1000])
	for _, i := range []int{0, 1, 500, 999} {
		failing[i].Rule = 1 - failing[i].Rule
		if got, ok := impl.RunSteps(s, "a", failing); got != "" || ok {
			t.Errorf("RunSteps with step %d that fails = %q, %v", i, got, ok)
		}
		failing[i] = list[i]
	}
	if got, ok := impl.RunSteps(s, "a", make([]impl.Step, 200000)); got != "" || ok {
		t.Errorf("RunSteps with 200000 steps = %q, %v", got, ok)
	}
}

func TestCountReached(t *testing.T) {
	cases := []struct {
		system string
		w      string
		want   int
	}{
		{"2 ba>ab", "", 1},
		{"2 ba>ab", "ab", 1},
		{"2 ba>ab", "ba", 2},
		{"2 ba>ab", "bba", 3},
		{"2 ba>ab", "bbaa", 6},
		{"2 ba>ab", "bbbbaaaa", 70},
		{"2", "babababa", 1},
		{"2", "babababab", -1},
		{"2 ba>ab", "bbbbaaaaa", -1},
		{"2 ba>ab", "aaaaaaaaa", -1},
		{"2 ba>ab", strings.Repeat("b", 16), -1},
		{"2 ba>ab", strings.Repeat("b", 17), -1},
		{"2 ba>ab", "bac", -1},
		{"2 ba>ab", "ba\xff", -1},
		{"2 ba>ab", "é", -1},
		{"2 ab>ba", "ab", -1},
		{"2 ab>ba", "", -1},
		{"2 a>a", "a", -1},
		{"1 a>.", "aaaaaaaa", 9},
		{"1 aaa>a aaaaaaaa>.", "aaaaaaaa", 5},
		// Several ways, or several rules, lead to one word.
		{"2 b>a", "bb", 4},
		{"2 b>a", "bbbbbbbb", 256},
		{"2 b>a b>a", "bbb", 8},
		{"2 bb>a bb>a ba>a", "bbb", 4},
		{"2 bb>a", "bbb", 3},
		{"2 aa>a", "aaaa", 4},
		{"4 b>a c>b d>c", "dddddddd", 65536},
		{"4 a>. b>a c>b d>c", "dddd", 341},
	}
	for _, c := range cases {
		if got := impl.CountReached(parsed(t, c.system), c.w); got != c.want {
			t.Errorf("CountReached(%q, %q) = %d, want %d", c.system, c.w, got, c.want)
		}
	}
}

func TestReachedWordsAreCountedOnce(t *testing.T) {
	check := func(s impl.System, w string) {
		set := map[string]bool{}
		want := -1
		if len(w) <= 8 {
			reachedBySteps(s, w, set)
			want = len(set)
		}
		if got := impl.CountReached(s, w); got != want {
			t.Fatalf("CountReached(%#v, %q) = %d, want %d", s, w, got, want)
		}
	}
	orderedSmallSystems(func(s impl.System) {
		textsOf("ab", 5, func(w string) { check(s, w) })
	})
	for _, s := range longSystems(t) {
		for _, w := range wordsWith(s, 4) {
			check(s, w)
			check(s, w[:min(len(w), 8)])
		}
	}
}

// callReductions calls every function of chapter 5 that takes a system and a word.
func callReductions(s impl.System, w string) {
	impl.StepsOf(s, w)
	impl.ApplyStep(s, w, impl.Step{})
	impl.FirstStep(s, w)
	impl.LastStep(s, w)
	impl.NormalForm(s, w)
	impl.FarForm(s, w)
	impl.IsReduced(s, w)
	impl.TraceOf(s, w)
	impl.RunSteps(s, w, []impl.Step{{}, {}})
	impl.CountReached(s, w)
}

// TestReductionArgumentsAreKept holds chapter 1 against the functions of chapter 5.
func TestReductionArgumentsAreKept(t *testing.T) {
	spare := ruleOf("b", "")
	systems := append(longSystems(t), someSystems()...)
	for _, s := range append(systems, unorderedSystems()...) {
		rules := append(slices.Clone(s.Rules), spare, spare)
		before := slices.Clone(rules)
		given := impl.System{Letters: s.Letters, Rules: rules[:len(s.Rules)]}
		for _, w := range []string{"", "ba", "bbaab", "dcba", "abdcca", "\xffba", strings.Repeat("ba", 9)} {
			callReductions(given, w)
		}
		if !slices.Equal(rules, before) {
			t.Errorf("the rules of %#v became %q", s, rules)
		}
	}
	s := parsed(t, "2 ba>ab")
	steps := []impl.Step{stepOf(0, 0), stepOf(0, 2), stepOf(0, 1), stepOf(7, 7), stepOf(8, 8)}
	before := slices.Clone(steps)
	for _, w := range []string{"baba", "ba", "", "\xff"} {
		impl.RunSteps(s, w, steps[:3])
		if !slices.Equal(steps, before) {
			t.Errorf("the steps became %v", steps)
		}
	}
}

// TestReductionResultsAreNew changes the results, also behind their ends, and asks again.
func TestReductionResultsAreNew(t *testing.T) {
	s := parsed(t, "2 ba>ab bb>b")
	ask := []func() []impl.Step{
		func() []impl.Step { return impl.StepsOf(s, "bbaba") },
		func() []impl.Step {
			list, _ := impl.TraceOf(s, "bbaba")
			return list
		},
	}
	for i, steps := range ask {
		list, other := steps(), steps()
		want := slices.Clone(list)
		if len(want) < 2 {
			t.Fatalf("list %d is %v", i, want)
		}
		for k := range list[:cap(list)] {
			list[:cap(list)][k] = stepOf(-9, -9)
		}
		if !slices.Equal(other, want) || !slices.Equal(steps(), want) {
			t.Errorf("a change of %v changed another result", want)
		}
	}
	if got := impl.FormatSystem(s); got != "2 ba>ab bb>b" {
		t.Errorf("the system became %q", got)
	}
}

// TestReductionsAreTheSameEachTime asks with another system in between.
func TestReductionsAreTheSameEachTime(t *testing.T) {
	s, other := parsed(t, "2 ab>a ba>b"), parsed(t, "2 b>.")
	for i := 0; i < 100; i++ {
		normal, _ := impl.NormalForm(s, "aba")
		far, _ := impl.FarForm(s, "aba")
		none, _ := impl.NormalForm(other, "aba")
		if normal != "aa" || far != "a" || none != "aa" || impl.CountReached(s, "aba") != 4 {
			t.Fatalf("%q, %q, %q and %d", normal, far, none, impl.CountReached(s, "aba"))
		}
	}
}
