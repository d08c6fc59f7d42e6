package tests

import (
	"fmt"
	"math"
	"math/rand"
	"runtime"
	"slices"
	"strings"
	"sync"
	"testing"
	"time"

	"loop.example/g03201/impl"
)

// equationsOf are the equations of a text such as "aa>b .>ba"; their sides may have up to MaxWord letters.
func equationsOf(t *testing.T, text string) []impl.Rule {
	t.Helper()
	var list []impl.Rule
	for _, part := range strings.Fields(text) {
		r, ok := impl.ParseRule(part)
		if !ok {
			t.Fatalf("ParseRule(%q) fails", part)
		}
		list = append(list, r)
	}
	return list
}

func workOf(t *testing.T, system, queue string, turns int) impl.Work {
	t.Helper()
	return impl.Work{System: parsed(t, system), Queue: equationsOf(t, queue), Turns: turns}
}

// withWaiting is the work with equations of two empty sides at the end, so that n wait.
func withWaiting(w impl.Work, n int) impl.Work {
	w.Queue = append(slices.Clone(w.Queue), make([]impl.Rule, n-len(w.Queue))...)
	return w
}

func equalWorks(w, v impl.Work) bool {
	return equalSystems(w.System, v.System) && slices.Equal(w.Queue, v.Queue) && w.Turns == v.Turns
}

func isZeroWork(w impl.Work) bool {
	return equalWorks(w, impl.Work{})
}

// shown is the text of a work, without most equations of a long queue.
func shown(w impl.Work) string {
	queue := w.Queue
	if len(queue) > 20 {
		queue = queue[:20]
	}
	return fmt.Sprintf("%#v with %d in the queue, first %q, and %d turns", w.System, len(w.Queue), queue, w.Turns)
}

func isWord(k int, w string, most int) bool {
	return 1 <= k && k <= 4 && len(w) <= most && strings.Trim(w, "abcd"[:k]) == ""
}

// workIsOk is WorkOk, one condition after the other.
func workIsOk(w impl.Work) bool {
	k := w.System.Letters
	ok := 1 <= k && k <= 4 && len(w.System.Rules) < 13 && len(w.Queue) < 401 && 0 <= w.Turns && w.Turns < 201
	for _, r := range w.System.Rules {
		ok = ok && isWord(k, r.Left, 8) && isWord(k, r.Right, 8) && lessByBytes(r.Right, r.Left)
	}
	for _, r := range w.Queue {
		ok = ok && isWord(k, r.Left, 16) && isWord(k, r.Right, 16)
	}
	return ok
}

// ruleOfEquation reduces both sides and puts the greater one first.
func ruleOfEquation(s impl.System, equation impl.Rule) impl.Rule {
	_, left := reduced(s, equation.Left, firstOf)
	_, right := reduced(s, equation.Right, firstOf)
	if lessByBytes(left, right) {
		return ruleOf(right, left)
	}
	return ruleOf(left, right)
}

// turned is TurnWork with lists: it builds the work that would follow, and asks then whether it is too large.
func turned(w impl.Work) (impl.Work, int) {
	if !workIsOk(w) {
		return w, impl.CoBad
	}
	if len(w.Queue) == 0 {
		return w, impl.CoDone
	}
	if w.Turns == 200 {
		return w, impl.CoSteps
	}
	next := impl.Work{System: systemOf(w.System.Letters), Queue: slices.Clone(w.Queue[1:]), Turns: w.Turns + 1}
	added := ruleOfEquation(w.System, w.Queue[0])
	if added.Left == added.Right {
		next.System = w.System
		return next, impl.CoDone
	}
	if len(added.Left) > 8 || len(added.Right) > 8 {
		return w, impl.CoLong
	}
	before := systemOf(w.System.Letters)
	for _, r := range w.System.Rules {
		if strings.Contains(r.Left, added.Left) {
			next.Queue = append(next.Queue, r)
		} else {
			before.Rules = append(before.Rules, r)
		}
	}
	before.Rules = append(before.Rules, added)
	for _, r := range before.Rules {
		_, right := reduced(before, r.Right, firstOf)
		next.System.Rules = append(next.System.Rules, ruleOf(r.Left, right))
	}
	next.System.Rules[len(next.System.Rules)-1] = added
	for _, p := range pairsByPlaces(next.System) {
		if newest := len(next.System.Rules) - 1; max(p.First.Rule, p.Second.Rule) == newest {
			next.Queue = append(next.Queue, ruleOf(cut(next.System, p.Word, p.First), cut(next.System, p.Word, p.Second)))
		}
	}
	if len(next.System.Rules) > 12 || len(next.Queue) > 400 {
		return w, impl.CoMany
	}
	return next, impl.CoDone
}

// checkTurn holds TurnWork and WorkOk against lists, and returns the next work and the code.
func checkTurn(t *testing.T, w impl.Work) (impl.Work, int) {
	t.Helper()
	if got := impl.WorkOk(w); got != workIsOk(w) {
		t.Fatalf("WorkOk of %s = %v", shown(w), got)
	}
	want, code := turned(w)
	got, gotCode := impl.TurnWork(w)
	if !equalWorks(got, want) || gotCode != code {
		t.Fatalf("TurnWork of %s is %s, %d, want %s, %d", shown(w), shown(got), gotCode, shown(want), code)
	}
	if code != impl.CoBad && !impl.WorkOk(got) {
		t.Fatalf("TurnWork of %s is not valid: %s", shown(w), shown(got))
	}
	return got, code
}

// checkCompletion makes the turns one after the other, holds Complete and TurnsFor against them, and returns what they say.
func checkCompletion(t *testing.T, k int, equations []impl.Rule) (impl.System, int) {
	t.Helper()
	w, ok := impl.StartWork(k, equations)
	if !ok || !equalWorks(w, impl.Work{System: systemOf(k), Queue: equations}) {
		t.Fatalf("StartWork(%d, %q) = %s, %v", k, equations, shown(w), ok)
	}
	code := impl.CoDone
	for code == impl.CoDone && len(w.Queue) > 0 {
		w, code = checkTurn(t, w)
	}
	if s, got := impl.Complete(k, equations); !equalSystems(s, w.System) || got != code {
		t.Fatalf("Complete(%d, %q) = %#v, %d, want %#v, %d", k, equations, s, got, w.System, code)
	}
	turns := w.Turns
	if code != impl.CoDone {
		turns = -1
	}
	if got := impl.TurnsFor(k, equations); got != turns {
		t.Fatalf("TurnsFor(%d, %q) = %d, want %d", k, equations, got, turns)
	}
	return w.System, code
}

func failsToComplete(t *testing.T, k int, equations []impl.Rule) {
	t.Helper()
	if w, ok := impl.StartWork(k, equations); !isZeroWork(w) || ok {
		t.Errorf("StartWork(%d, %q) = %s, %v", k, equations, shown(w), ok)
	}
	if s, code := impl.Complete(k, equations); !isZeroSystem(s) || code != impl.CoBad {
		t.Errorf("Complete(%d, %q) = %#v, %d", k, equations, s, code)
	}
	if n := impl.TurnsFor(k, equations); n != -1 {
		t.Errorf("TurnsFor(%d, %q) = %d", k, equations, n)
	}
}

func TestCompletionConstants(t *testing.T) {
	if impl.CoDone != 0 || impl.CoLong != 1 || impl.CoMany != 2 || impl.CoSteps != 3 || impl.CoBad != 4 {
		t.Error("a code has another number")
	}
	if impl.MaxTurns != 200 {
		t.Errorf("MaxTurns = %d", impl.MaxTurns)
	}
}

func TestWorkOk(t *testing.T) {
	full, long := strings.Repeat("ab", 8), strings.Repeat("ab", 8)+"a"
	rules, others := systemOf(2, ruleOf("ba", "ab")), systemOf(4)
	cases := []struct {
		name string
		w    impl.Work
		want bool
	}{
		{"the zero value", impl.Work{}, false},
		{"no rules and no equations", impl.Work{System: systemOf(1)}, true},
		{"empty lists", impl.Work{System: impl.System{Letters: 4, Rules: []impl.Rule{}}, Queue: []impl.Rule{}}, true},
		{"an equation", impl.Work{System: rules, Queue: []impl.Rule{ruleOf("a", "b")}}, true},
		{"equations without order", impl.Work{System: rules, Queue: []impl.Rule{ruleOf("", ""), ruleOf("", "a"), ruleOf("a", "a"), ruleOf("ab", "ba")}}, true},
		{"no turns", impl.Work{System: rules, Turns: 0}, true},
		{"fewer turns than none", impl.Work{System: rules, Turns: -1}, false},
		{"MaxTurns", impl.Work{System: rules, Turns: 200}, true},
		{"MaxTurns and one more", impl.Work{System: rules, Turns: 201}, false},
		{"the most turns", impl.Work{System: rules, Turns: math.MaxInt}, false},
		{"the fewest turns", impl.Work{System: rules, Turns: math.MinInt}, false},
		{"400 equations", withWaiting(impl.Work{System: rules}, 400), true},
		{"401 equations", withWaiting(impl.Work{System: rules}, 401), false},
		{"many equations", withWaiting(impl.Work{System: rules}, 5000), false},
		{"a Left of MaxWord letters", impl.Work{System: rules, Queue: []impl.Rule{ruleOf(full, "a")}}, true},
		{"a Right of MaxWord letters", impl.Work{System: rules, Queue: []impl.Rule{ruleOf("a", full)}}, true},
		{"a longer Left", impl.Work{System: rules, Queue: []impl.Rule{ruleOf(long, "a")}}, false},
		{"a longer Right", impl.Work{System: rules, Queue: []impl.Rule{ruleOf("a", long)}}, false},
		{"another letter in a Left", impl.Work{System: rules, Queue: []impl.Rule{ruleOf("abc", "a")}}, false},
		{"another letter in a Right", impl.Work{System: rules, Queue: []impl.Rule{ruleOf("a", "abc")}}, false},
		{"a letter of four", impl.Work{System: others, Queue: []impl.Rule{ruleOf("abcd", "d")}}, true},
		{"a wrong equation behind others", impl.Work{System: others, Queue: []impl.Rule{ruleOf("abcd", "d"), ruleOf("a", "b"), ruleOf("a", "e")}}, false},
		{"a wrong equation before others", impl.Work{System: others, Queue: []impl.Rule{ruleOf("e", "a"), ruleOf("a", "b")}}, false},
		{"12 rules", impl.Work{System: systemOf(1, manyRules(12)...)}, true},
		{"13 rules", impl.Work{System: systemOf(1, manyRules(13)...)}, false},
	}
	for _, c := range cases {
		if got := impl.WorkOk(c.w); got != c.want {
			t.Errorf("WorkOk of %s = %v", c.name, got)
		}
	}
	for _, s := range append(invalidSystems(), unorderedSystems()...) {
		if impl.WorkOk(impl.Work{System: s}) || impl.WorkOk(impl.Work{System: s, Queue: []impl.Rule{ruleOf("a", "")}, Turns: 1}) {
			t.Errorf("WorkOk with %#v is true", s)
		}
	}
	for _, s := range longSystems(t) {
		if !impl.WorkOk(impl.Work{System: s, Queue: s.Rules, Turns: 7}) {
			t.Errorf("WorkOk with %#v is false", s)
		}
	}
}

func TestWorkOkWithEachByte(t *testing.T) {
	for k := 1; k <= 4; k++ {
		for b := 0; b < 256; b++ {
			w, want := "a"+string([]byte{byte(b)}), 'a' <= b && b < 'a'+k
			for _, r := range []impl.Rule{ruleOf(w, "a"), ruleOf("a", w)} {
				if got := impl.WorkOk(impl.Work{System: systemOf(k), Queue: []impl.Rule{r}}); got != want {
					t.Errorf("WorkOk with %d letters and %q = %v", k, r, got)
				}
			}
		}
	}
	for _, w := range oddTexts() {
		for k := range 6 {
			if impl.WorkOk(impl.Work{System: systemOf(k), Queue: []impl.Rule{ruleOf("a", ""), ruleOf("a", w)}}) {
				t.Errorf("WorkOk with %d letters and %q is true", k, w)
			}
		}
	}
}

func TestStartWork(t *testing.T) {
	full := strings.Repeat("a", 8)
	for k := 1; k <= 4; k++ {
		for _, equations := range [][]impl.Rule{
			nil, {}, {ruleOf("", "")}, {ruleOf("a", "a")}, {ruleOf("", "a")}, {ruleOf("a", "")}, {ruleOf(full, full)}, {ruleOf("aa", "a"), ruleOf("a", "aa"), ruleOf("aa", "a")},
			manyRules(12), slices.Repeat([]impl.Rule{ruleOf("", full)}, 12),
		} {
			if w, ok := impl.StartWork(k, equations); !equalWorks(w, impl.Work{System: systemOf(k), Queue: equations}) || !ok || !impl.WorkOk(w) {
				t.Errorf("StartWork(%d, %q) = %s, %v", k, equations, shown(w), ok)
			}
		}
		for _, equations := range [][]impl.Rule{
			manyRules(13), manyRules(500), {ruleOf(full+"a", "a")}, {ruleOf("a", full+"a")}, {ruleOf("", "a"), ruleOf("e", "a")}, {ruleOf("a", "e"), ruleOf("a", "")},
			append(manyRules(11), ruleOf("", "\x80")), {ruleOf("a", strings.Repeat("a", 17))},
		} {
			failsToComplete(t, k, equations)
		}
		last, next := "abcd"[k-1:k], "abcde"[k:k+1]
		if w, ok := impl.StartWork(k, []impl.Rule{ruleOf(last, "")}); len(w.Queue) != 1 || !ok {
			t.Errorf("StartWork(%d) with %s = %s, %v", k, last, shown(w), ok)
		}
		failsToComplete(t, k, []impl.Rule{ruleOf(next, "")})
		failsToComplete(t, k, []impl.Rule{ruleOf("", next)})
		for _, w := range oddTexts() {
			failsToComplete(t, k, []impl.Rule{ruleOf(w, "a")})
			failsToComplete(t, k, []impl.Rule{ruleOf("a", ""), ruleOf("aa", w)})
		}
	}
	for _, k := range []int{0, 5, -1, 256, 257, math.MaxInt, math.MinInt} {
		for _, equations := range [][]impl.Rule{nil, {}, {ruleOf("", "")}, {ruleOf("a", "")}, {ruleOf("b", "a"), ruleOf("e", "a")}, manyRules(13)} {
			failsToComplete(t, k, equations)
		}
	}
}

// checkTurnTo holds a turn that succeeds against the work that must follow, with few and with many turns before.
func checkTurnTo(t *testing.T, system, queue, nextSystem, nextQueue string) {
	t.Helper()
	for _, turns := range []int{0, 6, 199} {
		w, want := workOf(t, system, queue, turns), workOf(t, nextSystem, nextQueue, turns+1)
		if got, code := impl.TurnWork(w); !equalWorks(got, want) || code != impl.CoDone {
			t.Errorf("TurnWork of %s is %s, %d, want %s", shown(w), shown(got), code, shown(want))
		}
		checkTurn(t, w)
	}
}

func checkTurnFails(t *testing.T, w impl.Work, code int) {
	t.Helper()
	if got, gotCode := impl.TurnWork(w); !equalWorks(got, w) || gotCode != code {
		t.Errorf("TurnWork of %s is %s, %d, want it unchanged and %d", shown(w), shown(got), gotCode, code)
	}
}

func TestTurnWork(t *testing.T) {
	a, b := strings.Repeat("a", 8), strings.Repeat("b", 8)
	cases := []struct {
		system, queue, nextSystem, nextQueue string
	}{
		// Both sides have one NormalForm: nothing but the queue changes, also if the Right of a rule is not reduced.
		{"1", ".>.", "1", ""},
		{"2", "ab>ab ba>ab", "2", "ba>ab"},
		{"2 ba>ab", "baba>aabb ab>b b>.", "2 ba>ab", "ab>b b>."},
		{"2 ba>ab", "ab>ba", "2 ba>ab", ""},
		{"1 aa>.", a + a + ">. a>aa", "1 aa>.", "a>aa"},
		{"3 cc>ba ba>ab", "baba>aabb", "3 cc>ba ba>ab", ""},
		{"2 bb>a bb>b", "bb>a", "2 bb>a bb>b", ""},
		// The NormalForm decides, where the FarForm says the opposite.
		{"2 bb>a ba>.", "bba>aa", "2 bb>a ba>.", ""},
		{"2 bb>a ba>.", "bba>b", "2 bb>a ba>. aa>b", "a>bb ba>ab"},
		// A rule as it stands, and one whose sides change places: the longer one, or the greater one of one length.
		{"2", "ba>ab", "2 ba>ab", ""},
		{"2", "ab>ba", "2 ba>ab", ""},
		{"2", "aa>b", "2 aa>b", "ba>ab"},
		{"2", "b>aa", "2 aa>b", "ba>ab"},
		{"2", ".>b", "2 b>.", ""},
		{"2", "a>b aa>b", "2 b>a", "aa>b"},
		{"4", "abcd>dcba d>c", "4 dcba>abcd", "d>c"},
		// Both sides are reduced first, and may change places by that.
		{"2 bb>.", "abbbb>bbba", "2 bb>. ba>a", "a>ba"},
		{"2 bb>.", "bba>aab", "2 bb>. aab>a", "ab>aa"},
		{"2 bb>.", "bbabb>abab", "2 bb>. abab>a", "ab>aba aab>aba"},
		{"2 bb>.", "abb>bbbbb", "2 b>a", "bb>."},
		// Sides of MaxWord letters that are reduced to exactly MaxSide letters.
		{"2 bb>.", a + b + ">b", "2 bb>. " + a + ">b", "baaaaaaa>aaaaaaab baaaaaa>aaaaaab baaaaa>aaaaab baaaa>aaaab baaa>aaab baa>aab ba>ab"},
	}
	for _, c := range cases {
		checkTurnTo(t, c.system, c.queue, c.nextSystem, c.nextQueue)
	}
}

// TestTurnsRemoveRules removes no rule, one or several, at the beginning, in the middle and at the end, and reduces the Rights of the others.
func TestTurnsRemoveRules(t *testing.T) {
	cases := []struct {
		system, queue, nextSystem, nextQueue string
	}{
		// None, although parts of a Left, a whole Right, or a letter of the new Left are there.
		{"3 cc>b", "ba>ab", "3 cc>b ba>ab", ""},
		{"3 ccc>bb", "bb>.", "3 ccc>. bb>.", "b>b"},
		{"3 cb>a", "bbb>b", "3 cb>a bbb>b", "abb>cb bbb>bbb bb>bb"},
		// One: the Left itself, at its beginning, in the middle, at its end, and at several places.
		{"2 bb>a", "b>.", "2 b>.", "bb>a"},
		{"3 cab>b", "ca>a", "3 ca>a", "cab>b"},
		{"3 acab>b", "ca>a", "3 ca>a", "acab>b"},
		{"3 bca>b", "ca>a", "3 ca>a", "bca>b"},
		{"3 caca>b", "ca>a", "3 ca>a", "caca>b"},
		// Several, in order, between rules that are left.
		{"4 cc>. bb>a dd>. ab>b ddd>d", "b>.", "4 cc>. dd>. ddd>d b>.", "bb>a ab>b"},
		{"4 ab>b dd>. bb>a", "b>a", "4 dd>. b>a", "ab>b bb>a"},
		{"3 bb>a cb>b bc>c", "b>.", "3 b>.", "bb>a cb>b bc>c"},
		{"3 bb>a bb>a", "b>a", "3 b>a", "bb>a bb>a"},
		// The removed rules come as they were: their sides are reduced when their turn comes.
		{"3 cccc>ba bba>ab", "ba>a", "3 cccc>a ba>a", "bba>ab"},
		// What waited is first, then the removed rules, then the pairs with the new rule, and no others.
		{"2 bab>a abb>b aaa>.", "ba>b aa>aa .>bbb", "2 abb>b aaa>. ba>b", "aa>aa .>bbb bab>a ba>abb bbb>bb baa>b"},
		// A pair in which the new rule is First and Second comes once, a pair of old rules not at all, and one of equal words all the same.
		{"2 aa>.", "bb>.", "2 aa>. bb>.", "b>b"},
		{"3 aa>b ccc>a", "bb>a .>b", "3 aa>b ccc>a bb>a", ".>b ab>ba"},
		{"3 ab>. ca>c", "bc>a", "3 ab>. ca>c bc>a", "c>aa aa>bc"},
		// The Rights of one rule, of several, and of none are reduced, by the new rule and by older ones.
		{"3 ccc>ba", "ba>ab", "3 ccc>ab ba>ab", ""},
		{"4 ccc>ba ddd>bba cd>a", "ba>ab", "4 ccc>ab ddd>abb cd>a ba>ab", ""},
		{"4 ccc>aa dd>. aa>b", "dc>.", "4 ccc>b dd>. aa>b dc>.", "c>d cc>db"},
		{"4 cccc>bab dd>. ab>a", "ba>b", "4 cccc>bb dd>. ab>a ba>b", "aa>ab bb>ba"},
		// They are reduced by the rules that are left, not by a removed one.
		{"4 ddd>ab ab>.", "b>a", "4 ddd>aa b>a", "ab>."},
		{"4 ab>. ddd>ab", "b>a", "4 ddd>aa b>a", "ab>."},
		// They are reduced by the rules as they were before, whose Rights may change in the same turn.
		{"4 dd>ba cccc>cdd cb>a", "ba>.", "4 dd>. cccc>aa cb>a ba>.", "aa>c"},
		{"4 cccc>cdd dd>ba cb>a", "ba>.", "4 cccc>aa dd>. cb>a ba>.", "aa>c"},
	}
	for _, c := range cases {
		checkTurnTo(t, c.system, c.queue, c.nextSystem, c.nextQueue)
	}
}

func TestTurnsWithoutEquations(t *testing.T) {
	for _, s := range longSystems(t) {
		for _, turns := range []int{0, 1, 199, 200} {
			for _, queue := range [][]impl.Rule{nil, {}} {
				w := impl.Work{System: s, Queue: queue, Turns: turns}
				if got, code := impl.TurnWork(w); !equalWorks(got, w) || code != impl.CoDone {
					t.Errorf("TurnWork of %s is %s, %d", shown(w), shown(got), code)
				}
			}
		}
	}
}

func TestTurnsOfWrongWorks(t *testing.T) {
	equation := ruleOf("b", "a")
	works := []impl.Work{
		{}, {Turns: 3}, {Queue: []impl.Rule{equation}}, {System: systemOf(5), Queue: []impl.Rule{equation}, Turns: 1},
		{System: systemOf(2), Turns: -1}, {System: systemOf(2), Turns: 201}, {System: systemOf(2), Turns: math.MinInt}, {System: systemOf(2), Turns: math.MaxInt},
		{System: systemOf(1), Queue: []impl.Rule{equation}}, {System: systemOf(2), Queue: []impl.Rule{equation, ruleOf("c", "a")}},
		{System: systemOf(4), Queue: []impl.Rule{equation, ruleOf("a", strings.Repeat("a", 17))}}, withWaiting(impl.Work{System: systemOf(2)}, 401),
		// The queue is empty or holds two equal sides, but the work is wrong.
		{System: systemOf(2, ruleOf("a", "b"))}, {System: systemOf(2, ruleOf("a", "b")), Queue: []impl.Rule{ruleOf("a", "a")}}, {System: systemOf(1, manyRules(13)...)},
		// The other errors fit, too.
		{System: systemOf(2), Queue: []impl.Rule{equation}, Turns: 201},
		{System: systemOf(2), Queue: []impl.Rule{equation, ruleOf("", "e")}, Turns: 200},
		{System: systemOf(2), Queue: []impl.Rule{ruleOf(strings.Repeat("a", 9), ""), ruleOf("", "e")}},
		{System: systemOf(2), Queue: []impl.Rule{ruleOf(strings.Repeat("a", 17), "")}},
		{System: systemOf(2, manyRules(13)...), Queue: []impl.Rule{equation}},
		withWaiting(impl.Work{System: systemOf(2), Queue: []impl.Rule{ruleOf(strings.Repeat("a", 9), "")}, Turns: 200}, 401),
	}
	for _, w := range works {
		checkTurnFails(t, w, impl.CoBad)
	}
	for _, s := range append(invalidSystems(), unorderedSystems()...) {
		checkTurnFails(t, impl.Work{System: s}, impl.CoBad)
		checkTurnFails(t, impl.Work{System: s, Queue: []impl.Rule{ruleOf("a", ""), ruleOf("", "a")}, Turns: 200}, impl.CoBad)
	}
	for _, w := range oddTexts() {
		checkTurnFails(t, impl.Work{System: systemOf(4), Queue: []impl.Rule{ruleOf(w, "")}}, impl.CoBad)
		checkTurnFails(t, impl.Work{System: systemOf(4), Queue: []impl.Rule{equation, ruleOf("a", w)}, Turns: 2}, impl.CoBad)
		checkTurnFails(t, impl.Work{System: systemOf(4, ruleOf("dd", w)), Queue: []impl.Rule{equation}}, impl.CoBad)
	}
}

func TestTurnsEnd(t *testing.T) {
	long := strings.Repeat("a", 9)
	for _, queue := range []string{"b>a", "a>a", ".>.", "ba>ab b>a", long + ">.", long + ">a b>a"} {
		checkTurnFails(t, workOf(t, "2", queue, 200), impl.CoSteps)
		checkTurnFails(t, workOf(t, "2 bb>.", queue, 200), impl.CoSteps)
	}
	// It would have too many rules, or leave too many equations.
	checkTurnFails(t, impl.Work{System: systemOf(2, manyRules(12)...), Queue: equationsOf(t, "b>."), Turns: 200}, impl.CoSteps)
	checkTurnFails(t, withWaiting(workOf(t, "2 bb>. ab>.", "b>.", 200), 400), impl.CoSteps)
	// One turn earlier, the last one is made.
	checkTurnTo(t, "2", "b>a a>a", "2 b>a", "a>a")
}

func TestTurnsWithLongSides(t *testing.T) {
	a, b := strings.Repeat("a", 8), strings.Repeat("b", 8)
	for _, c := range []struct{ system, queue string }{
		{"1", a + "a>."}, {"1", ".>" + a + "a"}, {"1", a + a + ">."}, {"2", b + "b>" + a}, {"2", a + ">" + b + "b"},
		{"2", b + "b>" + a + "a"}, {"2", a + "a>" + b + "b"}, {"2", b + b + ">" + a + a}, {"2", a + "a>. b>a"},
		// Reduced, and still too long.
		{"2 bb>.", a + "abb>b"}, {"2 bb>.", "b>" + a + "babb"}, {"2 bb>b", "b>a" + b[1:] + a},
	} {
		checkTurnFails(t, workOf(t, c.system, c.queue, 3), impl.CoLong)
	}
	// Sides of MaxSide letters are not too long, on one side or on both, also if they are longer before they are reduced.
	for _, queue := range []string{a[1:] + "b>.", ".>" + a[1:] + "b", b + ">" + a, a[1:] + "b>" + a} {
		w, code := checkTurn(t, workOf(t, "3 cc>.", queue+" c>.", 3))
		if len(w.System.Rules) != 2 || len(w.System.Rules[1].Left) != 8 || code != impl.CoDone {
			t.Errorf("the turn of %q is %s, %d", queue, shown(w), code)
		}
		w, code = checkTurn(t, workOf(t, "3 cc>.", strings.Replace(queue, "a", "cca", 1)+" c>.", 3))
		if len(w.System.Rules) != 2 || len(w.System.Rules[1].Left) != 8 || code != impl.CoDone {
			t.Errorf("the turn of %q with two more letters is %s, %d", queue, shown(w), code)
		}
	}
	// The rules or the equations would be too many, too.
	long := []impl.Rule{ruleOf(b+"b", "")}
	checkTurnFails(t, impl.Work{System: systemOf(2, manyRules(12)...), Queue: long}, impl.CoLong)
	checkTurnFails(t, withWaiting(impl.Work{System: systemOf(2, ruleOf("abba", "")), Queue: long}, 400), impl.CoLong)
}

func TestTurnsWithManyRules(t *testing.T) {
	b := equationsOf(t, "b>. aa>a")
	// 11 rules become 12, and 12 rules would become 13.
	w, code := checkTurn(t, impl.Work{System: systemOf(2, manyRules(11)...), Queue: b, Turns: 5})
	if len(w.System.Rules) != 12 || code != impl.CoDone {
		t.Errorf("a turn with 11 rules is %s, %d", shown(w), code)
	}
	checkTurnFails(t, impl.Work{System: systemOf(2, manyRules(12)...), Queue: b, Turns: 5}, impl.CoMany)
	// 12 rules of which one is removed are 12 again, and fewer if more are removed.
	for n := 1; n <= 12; n++ {
		list := append(manyRules(12-n), slices.Repeat([]impl.Rule{ruleOf("cbc", "c")}, n)...)
		w, code := checkTurn(t, impl.Work{System: systemOf(3, list...), Queue: b, Turns: 5})
		if len(w.System.Rules) != 13-n || len(w.Queue) != 1+n || code != impl.CoDone {
			t.Errorf("a turn that removes %d of 12 rules is %s, %d", n, shown(w), code)
		}
	}
	// Two equal sides need no rule.
	if w, code := checkTurn(t, impl.Work{System: systemOf(2, manyRules(12)...), Queue: equationsOf(t, "ba>b b>.")}); len(w.Queue) != 1 || code != impl.CoDone {
		t.Errorf("a turn with two equal sides is %s, %d", shown(w), code)
	}
}

func TestTurnsWithManyEquations(t *testing.T) {
	cases := []struct {
		system, queue string
		// added is the number of removed rules and pairs.
		added int
	}{
		{"2", "b>a", 0}, {"2", "aa>b", 1}, {"2 bb>.", "b>a", 1}, {"2 aa>.", "aba>b", 3}, {"2 bb>. bbb>a", "b>a", 2}, {"1", "aaaaaaaa>.", 7},
		{"2 bab>a abb>b aaa>.", "ba>b", 4}, {"3 cacc>. bb>.", "cac>b", 2},
	}
	for _, c := range cases {
		w := workOf(t, c.system, c.queue, 9)
		for n := 390; n <= 400; n++ {
			full := withWaiting(w, n)
			got, code := checkTurn(t, full)
			if n-1+c.added > 400 {
				checkTurnFails(t, full, impl.CoMany)
			} else if len(got.Queue) != n-1+c.added || got.Turns != 10 || code != impl.CoDone {
				t.Errorf("the turn of %q with %q and %d equations leaves %d, %d", c.system, c.queue, n, len(got.Queue), code)
			}
		}
	}
	// Two equal sides make the queue shorter.
	if w, code := checkTurn(t, withWaiting(workOf(t, "2 bb>.", "bb>.", 0), 400)); len(w.Queue) != 399 || code != impl.CoDone {
		t.Errorf("a turn with two equal sides leaves %d, %d", len(w.Queue), code)
	}
}

func TestComplete(t *testing.T) {
	cases := []struct {
		k               int
		equations, want string
		code, turns     int
	}{
		// No equations, and completions that end at once.
		{1, "", "1", impl.CoDone, 0},
		{2, "", "2", impl.CoDone, 0},
		{3, "", "3", impl.CoDone, 0},
		{4, "", "4", impl.CoDone, 0},
		{1, "a>a", "1", impl.CoDone, 1},
		{1, ".>.", "1", impl.CoDone, 1},
		{2, "ab>ba", "2 ba>ab", impl.CoDone, 1},
		{2, "a>b", "2 b>a", impl.CoDone, 1},
		{2, "ab>.", "2 ab>.", impl.CoDone, 1},
		{2, "aab>ba", "2 aab>ba", impl.CoDone, 1},
		// Several turns, in which rules stay, are removed, or get other Rights.
		{1, "aa>.", "1 aa>.", impl.CoDone, 2},
		{1, "aaa>a", "1 aaa>a", impl.CoDone, 3},
		{2, "aa>b", "2 aa>b ba>ab", impl.CoDone, 3},
		{2, "b>aa", "2 aa>b ba>ab", impl.CoDone, 3},
		{2, "aba>b", "2 aba>b bba>abb", impl.CoDone, 3},
		{2, "abab>a", "2 aba>aab aabb>a", impl.CoDone, 5},
		{3, "ab>. ac>.", "3 ab>. ac>.", impl.CoDone, 2},
		{3, "ab>ba bc>cb ac>ca", "3 ba>ab cb>bc ca>ac", impl.CoDone, 4},
		{4, "a>b b>c c>d", "4 b>a c>a d>a", impl.CoDone, 3},
		{4, "a>b b>c c>d d>.", "4 b>. c>. d>. a>.", impl.CoDone, 4},
		{4, "ab>. ba>. cd>. dc>. ac>ca", "4 ab>. ba>. cd>. dc>. ca>ac da>ad cb>bc db>bd", impl.CoDone, 38},
		{2, "aaa>. bb>. bab>aa", "2 aaa>. bb>. bab>aa baa>ab aab>ba aba>b", impl.CoDone, 29},
		{1, "aaaaaaaa>. aaaaa>.", "1 a>.", impl.CoDone, 20},
		// The 200th turn is the last one that may be made.
		{2, "baa>aba baabb>a a>bbbb bba>aabba", "2 bbbb>a ba>a aa>a ab>a", impl.CoDone, 200},
		// The other codes, each with the system of that time.
		{2, "aba>bab", "2 bab>aba baaba>abaab baaaba>abaabb baaaaba>abaabbb", impl.CoLong, -1},
		{3, "cbabc>acba cacc>ca", "3 cbabc>acba cacc>ca cbabacba>acbababc acbaacc>acbaa cacacba>cababc caacc>caa", impl.CoLong, -1},
		{3, "cc>cab bac>.", "3 bac>. ab>c cac>a caa>aac baa>ac acb>. accb>ba acccb>bca bba>cb cba>. accccb>bcca bbca>ccb", impl.CoMany, -1},
		{2, "aabaa>b b>abbb", "2 abbb>b bbbbb>aab bab>abb baa>aab aaab>bbb", impl.CoSteps, -1},
		// Fewer than MaxRules rules, but too many equations; and more than 400 equations in all, but never at once.
		{2, "baba>babbba .>baabbb abab>abaaba", "2 babb>ba abaa>ab baab>. abbb>ba abbab>aab abbaa>abb abab>aa aabb>aa aaba>ab aaa>a", impl.CoMany, -1},
		{2, "abbbb>aaa bb>aaaaa aaabaab>.", "2 aaa>a aab>b bb>a ba>ab", impl.CoSteps, -1},
	}
	for _, c := range cases {
		equations := equationsOf(t, c.equations)
		if s, code := impl.Complete(c.k, equations); impl.FormatSystem(s) != c.want || code != c.code {
			t.Errorf("Complete(%d, %q) = %#v, %d, want %q, %d", c.k, c.equations, s, code, c.want, c.code)
		}
		if got := impl.TurnsFor(c.k, equations); got != c.turns {
			t.Errorf("TurnsFor(%d, %q) = %d, want %d", c.k, c.equations, got, c.turns)
		}
		checkCompletion(t, c.k, equations)
	}
}

// TestCompletedGroups counts the reduced words for equations of groups with known numbers of elements.
func TestCompletedGroups(t *testing.T) {
	cases := []struct {
		k         int
		equations string
		elements  int
	}{
		{1, "aaaaaa>. aaaa>.", 2}, {1, "aaaaaaa>.", 7}, {1, "aaaaaaaa>. aaaaa>.", 1},
		{2, "aa>. bbb>. abab>.", 6}, {2, "aa>. bb>. ababab>.", 6}, {2, "aaa>. bb>. bab>aa", 6}, {2, "aa>. bbbb>. abab>.", 8}, {2, "aa>. bb>. abababab>.", 8},
		{2, "aaaa>. aa>bb bab>a", 8}, {2, "aaaa>. bb>aa ba>ab", 8}, {2, "aaa>. bbb>. abab>.", 12}, {2, "aa>. bbb>. ababab>.", 12}, {2, "aa>. bbb>. abababab>.", 24},
		{2, "aaa>. bbb>. ab>ba", 9}, {3, "aa>. bb>. cc>. ab>ba bc>cb ac>ca", 8},
	}
	for _, c := range cases {
		s, code := checkCompletion(t, c.k, equationsOf(t, c.equations))
		n := 0
		textsOf("abc"[:c.k], 9, func(w string) {
			if len(stepsByPrefix(s, w)) == 0 {
				n++
			}
		})
		if n != c.elements || code != impl.CoDone {
			t.Errorf("Complete(%d, %q) = %q, %d with %d reduced words, want %d", c.k, c.equations, impl.FormatSystem(s), code, n, c.elements)
		}
	}
}

// checkCompleted holds P2 for a completion that has ended: the system is complete, no rule is spare, and words that the equations make equal have one form.
func checkCompleted(t *testing.T, s impl.System, equations []impl.Rule) {
	t.Helper()
	if !impl.SystemOk(s) || !impl.IsComplete(s) || !impl.IsInterreduced(s) {
		t.Fatalf("the system %#v of %q is not complete or has a spare rule", s, equations)
	}
	for _, r := range equations {
		left, leftOk := impl.NormalForm(s, r.Left)
		right, rightOk := impl.NormalForm(s, r.Right)
		if left != right || !leftOk || !rightOk {
			t.Fatalf("with %#v, %q becomes %q and %q", s, r, left, right)
		}
	}
	textsOf("abc"[:s.Letters], 2, func(before string) {
		textsOf("abc"[:s.Letters], 2, func(behind string) {
			for _, r := range equations {
				u, v := before+r.Left+behind, before+r.Right+behind
				_, left := reduced(s, u, firstOf)
				_, right := reduced(s, v, lastOf)
				if left != right {
					t.Fatalf("with %#v, the equal words %q and %q become %q and %q", s, u, v, left, right)
				}
			}
		})
	})
}

// actions are all maps of three points to themselves, as the points to which they go.
func actions() [][3]int {
	var list [][3]int
	for n := range 27 {
		list = append(list, [3]int{n / 9, n / 3 % 3, n % 3})
	}
	return list
}

// actionOf goes through the letters of a word, each of which moves the three points.
func actionOf(w string, letters [][3]int) [3]int {
	points := [3]int{0, 1, 2}
	for _, x := range []byte(w) {
		for i, p := range points {
			points[i] = letters[x-'a'][p]
		}
	}
	return points
}

func keepsAll(rules []impl.Rule, letters [][3]int) bool {
	for _, r := range rules {
		if actionOf(r.Left, letters) != actionOf(r.Right, letters) {
			return false
		}
	}
	return true
}

// checkRulesFollow looks for letters that move three points such that all equations hold and a rule does not.
func checkRulesFollow(t *testing.T, s impl.System, equations []impl.Rule) {
	t.Helper()
	for _, a := range actions() {
		for _, b := range actions() {
			letters := [][3]int{a, b}
			if keepsAll(equations, letters) && !keepsAll(s.Rules, letters) {
				t.Fatalf("the rules %q do not follow from %q", s.Rules, equations)
			}
		}
	}
}

func TestCompletionsOfFewEquations(t *testing.T) {
	codes := map[int]int{}
	check := func(list []impl.Rule) {
		s, code := checkCompletion(t, 2, list)
		codes[code]++
		if code == impl.CoDone {
			checkCompleted(t, s, list)
		}
	}
	listsOfRules(rulesOfTwoLetters(2), 2, check)
	listsOfRules(rulesOfTwoLetters(3), 1, check)
	if codes[impl.CoDone] < 2000 {
		t.Errorf("the codes are %v", codes)
	}
}

// drawnWord has at most n of the first k letters.
func drawnWord(r *rand.Rand, k, n int) string {
	w := make([]byte, r.Intn(n+1))
	for i := range w {
		w[i] = byte('a' + r.Intn(k))
	}
	return string(w)
}

func drawnEquations(r *rand.Rand, k, most, n int) []impl.Rule {
	var list []impl.Rule
	for range r.Intn(most + 1) {
		list = append(list, ruleOf(drawnWord(r, k, n), drawnWord(r, k, n)))
	}
	return list
}

func drawnSystem(r *rand.Rand, k, most, n int) impl.System {
	s := systemOf(k)
	for _, x := range drawnEquations(r, k, most, n) {
		if x.Left == x.Right {
			continue
		}
		if lessByBytes(x.Left, x.Right) {
			x = ruleOf(x.Right, x.Left)
		}
		s.Rules = append(s.Rules, x)
	}
	return s
}

// TestCompletionsOfDrawnEquations draws the same equations each time, and meets every code but CoBad.
func TestCompletionsOfDrawnEquations(t *testing.T) {
	r := rand.New(rand.NewSource(6))
	codes := map[int]int{}
	for range 1500 {
		k := 1 + r.Intn(3)
		list := drawnEquations(r, k, 4, 5)
		s, code := checkCompletion(t, k, list)
		codes[code]++
		if code == impl.CoDone {
			checkCompleted(t, s, list)
		}
	}
	for range 60 {
		list := drawnEquations(r, 2, 3, 4)
		// The rules follow from the equations also where the completion does not end.
		s, _ := impl.Complete(2, list)
		checkRulesFollow(t, s, list)
	}
	if codes[impl.CoDone] < 500 || codes[impl.CoLong] < 50 || codes[impl.CoMany] < 20 || codes[impl.CoSteps] < 5 {
		t.Errorf("the codes are %v", codes)
	}
}

// TestTurnsOfDrawnWorks makes turns of works that no completion leaves: with spare rules, long equations and many of them.
func TestTurnsOfDrawnWorks(t *testing.T) {
	r := rand.New(rand.NewSource(7))
	codes := map[int]int{}
	for range 6000 {
		k := 1 + r.Intn(4)
		w := impl.Work{System: drawnSystem(r, k, 12, 1+r.Intn(8)), Queue: drawnEquations(r, k, 8, 1+r.Intn(16)), Turns: r.Intn(201)}
		if r.Intn(3) == 0 {
			w = withWaiting(w, 380+r.Intn(21))
		}
		_, code := checkTurn(t, w)
		codes[code]++
	}
	if codes[impl.CoDone] < 2000 || codes[impl.CoLong] < 100 || codes[impl.CoMany] < 50 {
		t.Errorf("the codes are %v", codes)
	}
}

// someWorks are works of every kind, before and after turns, and wrong ones.
func someWorks(t *testing.T) []impl.Work {
	return []impl.Work{
		{}, workOf(t, "2", "", 0), workOf(t, "2 ba>ab", "", 200), workOf(t, "2 ba>ab", "ab>ba b>.", 0), workOf(t, "2 bab>a abb>b aaa>.", "ba>b aa>aa .>bbb", 3),
		workOf(t, "4 ccc>ba ddd>bba cd>a", "ba>ab", 1), workOf(t, "2 aa>. bb>.", "b>a", 200), workOf(t, "2 bb>.", "aaaaaaaaa>. b>.", 3),
		{System: systemOf(2, manyRules(12)...), Queue: equationsOf(t, "b>. a>a")}, withWaiting(workOf(t, "2 aa>.", "aba>b", 0), 400),
		workOf(t, "2 ab>ba", "ab>ba b>.", 0), {System: systemOf(5, ruleOf("e", "a")), Queue: []impl.Rule{ruleOf("\xff", "e")}, Turns: -4}, withWaiting(workOf(t, "2 aa>.", "aba>b", 0), 401),
	}
}

// spared is the list with spare capacity behind it, and the whole of it.
func spared(list []impl.Rule) ([]impl.Rule, []impl.Rule) {
	whole := append(slices.Clone(list), ruleOf("b", ""), ruleOf("a", ""), ruleOf("", ""))
	return whole[:len(list)], whole
}

// TestCompletionArgumentsAreKept holds chapter 1 against the functions of chapter 7.
func TestCompletionArgumentsAreKept(t *testing.T) {
	for _, w := range someWorks(t) {
		rules, allRules := spared(w.System.Rules)
		queue, allQueue := spared(w.Queue)
		rulesBefore, queueBefore := slices.Clone(allRules), slices.Clone(allQueue)
		given := impl.Work{System: impl.System{Letters: w.System.Letters, Rules: rules}, Queue: queue, Turns: w.Turns}
		impl.WorkOk(given)
		impl.TurnWork(given)
		for k := range 6 {
			impl.StartWork(k, queue)
			impl.Complete(k, queue)
			impl.TurnsFor(k, rules)
		}
		if !slices.Equal(allRules, rulesBefore) || !slices.Equal(allQueue, queueBefore) {
			t.Errorf("a call changed %s", shown(w))
		}
	}
}

// fill changes all of a list, also behind its end.
func fill(list []impl.Rule) {
	for i := range list[:cap(list)] {
		list[:cap(list)][i] = ruleOf("?", "!")
	}
}

// TestCompletionResultsAreNew changes the results, and looks at the arguments, at each other and at a second call.
func TestCompletionResultsAreNew(t *testing.T) {
	for _, w := range someWorks(t) {
		before := impl.Work{System: systemOf(w.System.Letters, slices.Clone(w.System.Rules)...), Queue: slices.Clone(w.Queue), Turns: w.Turns}
		want, code := turned(before)
		want = impl.Work{System: systemOf(want.System.Letters, slices.Clone(want.System.Rules)...), Queue: slices.Clone(want.Queue), Turns: want.Turns}
		first, _ := impl.TurnWork(w)
		fill(first.System.Rules)
		if !slices.Equal(first.Queue, want.Queue) {
			t.Errorf("the turn of %s has one list for the rules and the queue", shown(w))
		}
		fill(first.Queue)
		if second, got := impl.TurnWork(w); !equalWorks(w, before) || !equalWorks(second, want) || got != code {
			t.Errorf("a change of the turn of %s changed %s", shown(before), shown(w))
		}
	}
	equations := equationsOf(t, "aa>. bb>. ababab>.")
	want := slices.Clone(equations)
	start, _ := impl.StartWork(2, equations)
	s, _ := impl.Complete(2, equations)
	fill(start.Queue)
	fill(start.System.Rules)
	fill(s.Rules)
	if again, _ := impl.Complete(2, equations); !slices.Equal(equations, want) || impl.FormatSystem(again) != "2 aa>. bb>. bab>aba" {
		t.Errorf("a change of the results changed %q and %#v", equations, again)
	}
}

// TestCompletionsAreTheSameEachTime asks several times at once, and leaves nothing behind that runs.
func TestCompletionsAreTheSameEachTime(t *testing.T) {
	before := runtime.NumGoroutine()
	cases := []struct {
		equations []impl.Rule
		want      string
	}{
		{equationsOf(t, "aa>. bbb>. abab>."), "2 aa>. bbb>. bab>a aba>bb bba>ab abb>ba"},
		{equationsOf(t, "aa>b"), "2 aa>b ba>ab"},
		{equationsOf(t, "aba>bab"), "2 bab>aba baaba>abaab baaaba>abaabb baaaaba>abaabbb"},
	}
	var wait sync.WaitGroup
	for range 8 {
		wait.Go(func() {
			for range 10 {
				for _, c := range cases {
					if s, _ := impl.Complete(2, c.equations); impl.FormatSystem(s) != c.want {
						t.Errorf("Complete(2, %q) = %#v, want %q", c.equations, s, c.want)
					}
				}
			}
		})
	}
	wait.Wait()
	// What has sent its last pair may still be on its way out.
	for range 200 {
		if runtime.NumGoroutine() <= before {
			return
		}
		time.Sleep(time.Millisecond)
	}
	t.Errorf("%d goroutines became %d", before, runtime.NumGoroutine())
}
