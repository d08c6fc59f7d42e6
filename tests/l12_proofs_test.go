package tests

import (
	"math"
	"math/bits"
	"math/rand"
	"slices"
	"strconv"
	"strings"
	"sync"
	"testing"

	"loop.example/g03201/impl"
)

func linkOf(rule, place int, back bool) impl.Link {
	return impl.Link{Rule: rule, Place: place, Back: back}
}

// linksOf reads links as chapter 30 writes them: + or -, the rule, @ and the place.
func linksOf(t *testing.T, text string) []impl.Link {
	t.Helper()
	var links []impl.Link
	for _, part := range strings.Fields(text) {
		rule, place, _ := strings.Cut(part[1:], "@")
		i, ruleErr := strconv.Atoi(rule)
		p, placeErr := strconv.Atoi(place)
		if ruleErr != nil || placeErr != nil || part[0] != '+' && part[0] != '-' {
			t.Fatalf("%q is no link", part)
		}
		links = append(links, linkOf(i, p, part[0] == '-'))
	}
	return links
}

// wordsIn reads words that are separated by spaces, . for an empty one; none are written as -.
func wordsIn(text string) []string {
	if text == "-" {
		return nil
	}
	words := strings.Split(text, " ")
	for i, w := range words {
		words[i] = strings.TrimPrefix(w, ".")
	}
	return words
}

// move is a link with the word after it.
type move struct {
	link impl.Link
	word string
}

// movesFrom are all links that can be applied to a word; there are none if RulesOk is false.
func movesFrom(s impl.System, w string) []move {
	var list []move
	if !impl.RulesOk(s) {
		return nil
	}
	for place := 0; place <= len(w); place++ {
		for i, r := range s.Rules {
			if rest, ok := strings.CutPrefix(w[place:], r.Left); ok && len(w[:place]+r.Right+rest) <= 16 {
				list = append(list, move{linkOf(i, place, false), w[:place] + r.Right + rest})
			}
			if rest, ok := strings.CutPrefix(w[place:], r.Right); ok && len(w[:place]+r.Left+rest) <= 16 {
				list = append(list, move{linkOf(i, place, true), w[:place] + r.Left + rest})
			}
		}
	}
	return list
}

// chainBySearch looks for each link among all that can be applied.
func chainBySearch(s impl.System, w string, links []impl.Link) ([]string, bool) {
	if len(links) > 200 {
		return nil, false
	}
	words := []string{w}
	for i, x := range links {
		moves := movesFrom(s, words[i])
		n := slices.IndexFunc(moves, func(m move) bool { return m.link == x })
		if n < 0 {
			return nil, false
		}
		words = append(words, moves[n].word)
	}
	return words, true
}

// shortenedAsStated leaves out one part after the other, and looks for the next one from the beginning each time.
func shortenedAsStated(words []string, links []impl.Link) []impl.Link {
	words, links = slices.Clone(words), slices.Clone(links)
	for {
		first := slices.IndexFunc(words, func(w string) bool {
			return slices.Index(words, w) != len(words)-1-slices.Index(backwards(words), w)
		})
		if first < 0 {
			return links
		}
		last := len(words) - 1 - slices.Index(backwards(words), words[first])
		words, links = slices.Delete(words, first, last), slices.Delete(links, first, last)
	}
}

func backwards(words []string) []string {
	list := slices.Clone(words)
	slices.Reverse(list)
	return list
}

// shortenedOnTheWay goes along the chain, and forgets what is behind a word as soon as it comes back to it.
// This leaves the same links: those with which the chain leaves a word for the last time.
func shortenedOnTheWay(words []string, links []impl.Link) []impl.Link {
	met := []string{words[0]}
	var left []impl.Link
	for i, x := range links {
		if n := slices.Index(met, words[i+1]); n >= 0 {
			met, left = met[:n+1], left[:n]
		} else {
			met, left = append(met, words[i+1]), append(left, x)
		}
	}
	return left
}

// peakBySorting takes the last word in their order, and its first place.
func peakBySorting(words []string) int {
	list := slices.Clone(words)
	slices.SortFunc(list, orderOfWords)
	return slices.Index(words, list[len(list)-1])
}

// turnedOneByOne puts each link before the others.
func turnedOneByOne(links []impl.Link) []impl.Link {
	var list []impl.Link
	for _, x := range links {
		list = append([]impl.Link{linkOf(x.Rule, x.Place, !x.Back)}, list...)
	}
	return list
}

// proofByTraces takes the steps from a search for all steps each time.
func proofByTraces(s impl.System, u, v string) ([]impl.Link, bool) {
	there, first := reduced(s, u, firstOf)
	back, second := reduced(s, v, firstOf)
	if first != second || len(there)+len(back) > 200 {
		return nil, false
	}
	var links []impl.Link
	for _, x := range there {
		links = append(links, linkOf(x.Rule, x.Place, false))
	}
	slices.Reverse(back)
	for _, x := range back {
		links = append(links, linkOf(x.Rule, x.Place, true))
	}
	return links, true
}

// drawnLinks goes on from w with drawn links to words of at most most letters, as long as there are any.
func drawnLinks(r *rand.Rand, s impl.System, w string, n, most int) []impl.Link {
	var links []impl.Link
	for range n {
		moves := slices.DeleteFunc(movesFrom(s, w), func(m move) bool { return len(m.word) > most })
		if len(moves) == 0 {
			break
		}
		m := moves[r.Intn(len(moves))]
		links, w = append(links, m.link), m.word
	}
	return links
}

// joinedWords are the words that chains, all of whose words have at most n letters, join with w.
func joinedWords(s impl.System, w string, n int) []string {
	found := []string{w}
	for i := 0; i < len(found); i++ {
		for _, m := range movesFrom(s, found[i]) {
			if len(m.word) <= n && !slices.Contains(found, m.word) {
				found = append(found, m.word)
			}
		}
	}
	return found
}

// checkLinks holds ApplyLink against a list of all links.
func checkLinks(t *testing.T, s impl.System, w string) {
	t.Helper()
	moves := map[impl.Link]string{}
	for _, m := range movesFrom(s, w) {
		moves[m.link] = m.word
	}
	for rule := -1; rule <= len(s.Rules); rule++ {
		for place := -1; place <= len(w)+1; place++ {
			for _, back := range []bool{false, true} {
				x := linkOf(rule, place, back)
				want, wantOk := moves[x]
				if got, ok := impl.ApplyLink(s, w, x); got != want || ok != wantOk {
					t.Fatalf("ApplyLink(%#v, %q, %v) = %q, %v, want %q, %v", s, w, x, got, ok, want, wantOk)
				}
			}
		}
	}
}

// hasNoChain checks that no function takes the links.
func hasNoChain(t *testing.T, s impl.System, w string, links []impl.Link) {
	t.Helper()
	if words, ok := impl.ChainOf(s, w, links); len(words) != 0 || ok {
		t.Fatalf("ChainOf(%#v, %q, %v) = %q, %v", s, w, links, words, ok)
	}
	for _, v := range []string{"", w, "a", "ab"} {
		if impl.IsProof(s, w, v, links) {
			t.Fatalf("IsProof(%#v, %q, %q, %v) is true", s, w, v, links)
		}
	}
	if left, ok := impl.ShortenProof(s, w, links); len(left) != 0 || ok {
		t.Fatalf("ShortenProof(%#v, %q, %v) = %v, %v", s, w, links, left, ok)
	}
	if peak, ok := impl.PeakOf(s, w, links); peak != 0 || ok {
		t.Fatalf("PeakOf(%#v, %q, %v) = %d, %v", s, w, links, peak, ok)
	}
}

// checkChain holds all functions of a chain against the words found by a search, and returns whether there is a chain.
func checkChain(t *testing.T, s impl.System, w string, links []impl.Link) bool {
	t.Helper()
	words, ok := chainBySearch(s, w, links)
	if !ok {
		hasNoChain(t, s, w, links)
		return false
	}
	if got, ok := impl.ChainOf(s, w, links); !slices.Equal(got, words) || !ok {
		t.Fatalf("ChainOf(%#v, %q, %v) = %q, %v, want %q", s, w, links, got, ok, words)
	}
	end := words[len(links)]
	for _, v := range append(slices.Clone(words[:min(len(words), 6)]), end, "", end+"a") {
		if got := impl.IsProof(s, w, v, links); got != (v == end) {
			t.Fatalf("IsProof(%#v, %q, %q, %v) is %v", s, w, v, links, got)
		}
	}
	want := peakBySorting(words)
	if peak, ok := impl.PeakOf(s, w, links); peak != want || !ok {
		t.Fatalf("PeakOf(%#v, %q, %v) = %d, %v, want %d of %q", s, w, links, peak, ok, want, words)
	}
	checkTurned(t, s, words, links)
	checkShortened(t, s, words, links)
	return true
}

// checkTurned holds P5: a chain that is turned leads back, with the same words.
func checkTurned(t *testing.T, s impl.System, words []string, links []impl.Link) {
	t.Helper()
	turned, back := impl.TurnProof(links), 0
	if !slices.Equal(turned, turnedOneByOne(links)) || !slices.Equal(impl.TurnProof(turned), links) {
		t.Fatalf("TurnProof(%v) = %v", links, turned)
	}
	for _, x := range links {
		if x.Back {
			back++
		}
	}
	if n, m := impl.CountBack(links), impl.CountBack(turned); n != back || m != len(links)-back {
		t.Fatalf("CountBack(%v) = %d, and %d for the turned links", links, n, m)
	}
	// A string that is too long for a word can be left by a link, but not reached.
	if len(words[0]) > 16 && len(links) > 0 {
		hasNoChain(t, s, words[len(links)], turned)
		return
	}
	if got, ok := impl.ChainOf(s, words[len(links)], turned); !slices.Equal(got, backwards(words)) || !ok || !impl.IsProof(s, words[len(links)], words[0], turned) {
		t.Fatalf("with %#v, the turned links of %v lead from %q to %q, %v", s, links, words[len(links)], got, ok)
	}
}

// checkShortened holds P5: a shortened chain leads to the same word, without coming back to a word.
func checkShortened(t *testing.T, s impl.System, words []string, links []impl.Link) {
	t.Helper()
	want := shortenedOnTheWay(words, links)
	if !slices.Equal(want, shortenedAsStated(words, links)) {
		t.Fatalf("the links %v of %q are shortened to %v and to %v", links, words, want, shortenedAsStated(words, links))
	}
	left, ok := impl.ShortenProof(s, words[0], links)
	if !slices.Equal(left, want) || !ok {
		t.Fatalf("ShortenProof(%#v, %q, %v) = %v, %v, want %v", s, words[0], links, left, ok, want)
	}
	chain, ok := impl.ChainOf(s, words[0], left)
	if !ok || chain[len(left)] != words[len(links)] || !impl.IsProof(s, words[0], words[len(links)], left) {
		t.Fatalf("with %#v, the shortened links %v lead from %q to %q, %v", s, left, words[0], chain, ok)
	}
	slices.Sort(chain)
	if len(slices.Compact(chain)) != len(left)+1 {
		t.Fatalf("with %#v, the shortened links %v come back to a word of %q", s, left, chain)
	}
	if again, ok := impl.ShortenProof(s, words[0], left); !slices.Equal(again, left) || !ok {
		t.Fatalf("with %#v, %v is shortened again, to %v, %v", s, left, again, ok)
	}
}

// checkProof holds ProofOf against the traces of two words with the letters of an ordered system, and returns whether there is a proof.
func checkProof(t *testing.T, s impl.System, u, v string) bool {
	t.Helper()
	want, wantOk := proofByTraces(s, u, v)
	links, ok := impl.ProofOf(s, u, v)
	if !slices.Equal(links, want) || ok != wantOk {
		t.Fatalf("ProofOf(%#v, %q, %q) = %v, %v, want %v, %v", s, u, v, links, ok, want, wantOk)
	}
	other, otherOk := impl.ProofOf(s, v, u)
	if !slices.Equal(other, impl.TurnProof(links)) || otherOk != ok {
		t.Fatalf("ProofOf(%#v, %q, %q) = %v, %v, and from the other end %v, %v", s, u, v, links, ok, other, otherOk)
	}
	if !ok {
		return false
	}
	words, chainOk := impl.ChainOf(s, u, links)
	form, _ := impl.NormalForm(s, u)
	if !chainOk || words[len(links)] != v || words[len(links)-impl.CountBack(links)] != form || !impl.IsProof(s, u, v, links) || !impl.IsProof(s, v, u, other) {
		t.Fatalf("ProofOf(%#v, %q, %q) = %v, with the words %q, %v", s, u, v, links, words, chainOk)
	}
	// Each step leads to a less word, so that the greatest one is at an end.
	if peak, ok := impl.PeakOf(s, u, links); peak > 0 && (peak < len(links) || !lessByBytes(u, v)) || !ok {
		t.Fatalf("PeakOf the proof %v of %q and %q = %d, %v", links, u, v, peak, ok)
	}
	return true
}

func hasNoProof(t *testing.T, s impl.System, u, v string) {
	t.Helper()
	if links, ok := impl.ProofOf(s, u, v); len(links) != 0 || ok {
		t.Fatalf("ProofOf(%#v, %q, %q) = %v, %v", s, u, v, links, ok)
	}
}

func TestLinkConstants(t *testing.T) {
	if impl.MaxLinks != 200 {
		t.Errorf("MaxLinks = %d, want 200", impl.MaxLinks)
	}
}

func TestApplyLink(t *testing.T) {
	full := strings.Repeat("a", 16)
	cases := []struct {
		system string
		w      string
		link   string
		want   string
		ok     bool
	}{
		// Forward and back, at each place of a word.
		{"2 ba>ab", "baba", "+0@0", "abba", true}, {"2 ba>ab", "baba", "+0@1", "", false}, {"2 ba>ab", "baba", "+0@2", "baab", true}, {"2 ba>ab", "baba", "+0@3", "", false},
		{"2 ba>ab", "baba", "-0@0", "", false}, {"2 ba>ab", "baba", "-0@1", "bbaa", true}, {"2 ba>ab", "baba", "-0@2", "", false}, {"2 ba>ab", "baba", "-0@4", "", false},
		{"2 bab>aa", "babab", "+0@2", "baaa", true}, {"2 bab>aa", "baaa", "-0@1", "bbaba", true}, {"2 bab>aa", "baaa", "-0@2", "babab", true}, {"2 bab>aa", "baaa", "-0@3", "", false},
		// Rules that lead to a smaller word, to a greater one and to the same.
		{"2 b>a ab>bba a>a", "ab", "+0@1", "aa", true}, {"2 b>a ab>bba a>a", "ab", "-0@0", "bb", true}, {"2 b>a ab>bba a>a", "ab", "+1@0", "bba", true}, {"2 b>a ab>bba a>a", "bba", "-1@0", "ab", true}, {"2 b>a ab>bba a>a", "ab", "+2@0", "ab", true}, {"2 b>a ab>bba a>a", "ab", "-2@0", "ab", true}, {"2 b>a ab>bba a>a", "ab", "-2@1", "", false},
		// An empty side is at each place from 0 to the length of the word.
		{"2 ab>.", "ba", "-0@-1", "", false}, {"2 ab>.", "ba", "-0@0", "abba", true}, {"2 ab>.", "ba", "-0@1", "baba", true}, {"2 ab>.", "ba", "-0@2", "baab", true}, {"2 ab>.", "ba", "-0@3", "", false},
		{"2 ab>.", "", "-0@0", "ab", true}, {"2 ab>.", "", "-0@1", "", false}, {"2 ab>.", "", "-0@-1", "", false}, {"2 ab>.", "", "+0@0", "", false}, {"2 ab>.", "ab", "+0@0", "", true}, {"2 ab>.", "aabb", "+0@1", "ab", true}, {"2 ab>.", "aabb", "+0@0", "", false}, {"1 a>.", "a", "+0@0", "", true}, {"1 a>.", "a", "+0@1", "", false}, {"1 a>.", "a", "-0@1", "aa", true},
		// A side that overhangs the end, and one as long as the word.
		{"2 aab>b", "baa", "+0@1", "", false}, {"2 aab>b", "baab", "+0@1", "bb", true}, {"2 aab>b", "b", "-0@0", "aab", true}, {"2 aab>b", "b", "-0@1", "", false}, {"3 ccc>aab", "baa", "-0@1", "", false}, {"3 ccc>aab", "baab", "-0@1", "bccc", true}, {"2 bb>aa", "b", "+0@0", "", false}, {"2 bb>aa", "bb", "+0@1", "", false}, {"2 bb>aa", "bb", "+0@2", "", false}, {"2 bb>aa", "aa", "-0@1", "", false}, {"2 bb>aa", "aa", "-0@2", "", false},
		// The number of a rule.
		{"2 ba>ab b>a", "bb", "+-1@0", "", false}, {"2 ba>ab b>a", "bb", "+0@0", "", false}, {"2 ba>ab b>a", "bb", "+1@0", "ab", true}, {"2 ba>ab b>a", "bb", "+2@0", "", false}, {"2 ba>ab b>a", "aa", "--1@0", "", false}, {"2 ba>ab b>a", "aa", "-1@1", "ab", true}, {"2 ba>ab b>a", "aa", "-2@0", "", false}, {"2 ba>ab b>a", "bb", "+12@0", "", false}, {"2", "bb", "+0@0", "", false}, {"2", "", "-0@0", "", false}, {"2 ba>ab ba>ab", "ba", "+1@0", "ab", true}, {"2 b>a b>aa", "b", "+1@0", "aa", true}, {"2 b>a b>aa", "aa", "-1@0", "b", true},
		{"1 a>. aa>. aaa>. aaaa>. aaaaa>. a>aa a>aaa a>aaaa aa>a aa>aa aa>aaa aaa>a", "aaa", "+11@0", "a", true}, {"1 a>. aa>. aaa>. aaaa>. aaaaa>. a>aa a>aaa a>aaaa aa>a aa>aa aa>aaa aaa>a", "a", "-11@0", "aaa", true}, {"1 a>. aa>. aaa>. aaaa>. aaaaa>. a>aa a>aaa a>aaaa aa>a aa>aa aa>aaa aaa>a", "aaa", "+12@0", "", false},
		// Results of MaxWord letters, and of one more.
		{"2 ab>b", full[1:] + "b", "+0@14", full[2:] + "b", true}, {"2 b>ab", full[2:] + "b", "+0@14", full[1:] + "b", true}, {"2 b>ab", full[1:] + "b", "+0@15", "", false}, {"2 ab>b", full[2:] + "b", "-0@14", full[1:] + "b", true}, {"2 ab>b", full[1:] + "b", "-0@15", "", false},
		{"1 aa>.", full[2:], "-0@14", full, true}, {"1 aa>.", full[1:], "-0@0", "", false}, {"1 aa>.", full[1:], "-0@15", "", false}, {"1 a>.", full, "-0@16", "", false}, {"1 a>.", full[1:], "-0@15", full, true}, {"1 aaaaaaaa>.", full[8:], "-0@0", full, true}, {"1 aaaaaaaa>.", full[7:], "-0@0", "", false}, {"2 bb>aa", full, "-0@14", full[2:] + "bb", true}, {"2 bb>aa", full, "-0@15", "", false},
		// Strings that are no words.
		{"2 b>.", full + "b", "+0@16", full, true}, {"2 b>a", full + "b", "+0@16", "", false}, {"2 a>b", full + "b", "-0@16", "", false}, {"2 a>bb", full + "bb", "-0@16", "", false}, {"2 a>bb", full[1:] + "bb", "-0@15", full, true}, {"1 aaaaaaaa>.", full + "aaaaaaaa", "+0@16", full, true}, {"1 aaaaaaaa>.", full + "aaaaaaaaa", "+0@17", "", false}, {"1 a>aaaaaaaa", full + "aaaaaaa", "-0@15", full, true}, {"1 a>.", full + "a", "-0@17", "", false},
		{"1 a>.", "bab", "+0@1", "bb", true}, {"1 a>.", "bb", "-0@2", "bba", true}, {"2 ba>ab", "\xffab\xfe", "-0@1", "\xffba\xfe", true}, {"2 ba>ab", "éba", "+0@2", "éab", true}, {"2 ba>ab", "éba", "+0@1", "", false}, {"2 a>.", "é", "-0@1", "\xc3a\xa9", true}, {"2 ba>ab", "b\x80a", "+0@0", "", false}, {"2 ba>ab", "BA", "+0@0", "", false},
	}
	for _, c := range cases {
		x := linksOf(t, c.link)[0]
		if got, ok := impl.ApplyLink(parsed(t, c.system), c.w, x); got != c.want || ok != c.ok {
			t.Errorf("ApplyLink(%q, %q, %s) = %q, %v, want %q, %v", c.system, c.w, c.link, got, ok, c.want, c.ok)
		}
	}
}

// greatNumbers are far from every rule and place; some of them are near one if only a part of their bits is kept.
func greatNumbers() []int {
	return []int{math.MinInt, math.MinInt + 1, -1 << 32, -256, -17, -2, -1, 17, 18, 255, 256, 1 << 16, 1 << 32, 1<<32 + 1, 1 << 62, math.MaxInt - 8, math.MaxInt - 1, math.MaxInt}
}

func TestLinksWithGreatNumbers(t *testing.T) {
	systems := []impl.System{parsed(t, "1 a>."), parsed(t, "2 ba>ab ab>."), parsed(t, "2 a>aa b>a"), systemOf(1, manyRules(12)...), systemOf(1)}
	for _, s := range systems {
		for _, w := range []string{"", "a", "ab", "ba", strings.Repeat("a", 16)} {
			for _, n := range greatNumbers() {
				for _, back := range []bool{false, true} {
					for _, x := range []impl.Link{linkOf(n, 0, back), linkOf(0, n, back), linkOf(1, n, back), linkOf(n, n, back), linkOf(n, -n, back)} {
						if got, ok := impl.ApplyLink(s, w, x); got != "" || ok {
							t.Errorf("ApplyLink(%#v, %q, %v) = %q, %v", s, w, x, got, ok)
						}
						hasNoChain(t, s, w, []impl.Link{x})
						links := append(drawnLinks(rand.New(rand.NewSource(1)), s, w, 5, 16), x)
						hasNoChain(t, s, w, links)
						if turned := impl.TurnProof(links); !slices.Equal(turned, turnedOneByOne(links)) {
							t.Errorf("TurnProof(%v) = %v", links, turned)
						}
					}
				}
			}
		}
	}
}

func TestLinksAreAllThatFit(t *testing.T) {
	var words []string
	textsOf("ab", 3, func(w string) { words = append(words, w) })
	words = append(words, "bacb", "\xffba\xffa", strings.Repeat("ab", 8), strings.Repeat("ba", 8)+"b")
	n := 0
	smallSystems(func(s impl.System) {
		n++
		for i := n % 3; i < len(words); i += 3 {
			checkLinks(t, s, words[i])
		}
	})
	for _, s := range append(longSystems(t), unorderedSystems()...) {
		for _, w := range append(wordsWith(s, 3), oddTexts()...) {
			checkLinks(t, s, w)
		}
	}
}

func TestInvalidSystemsHaveNoLinks(t *testing.T) {
	n := 0
	for _, s := range append(invalidSystems(), someSystems()...) {
		if impl.RulesOk(s) {
			continue
		}
		n++
		for _, w := range []string{"", "a", "b", "ba", "aaaaaaaaa", "e", "\xff"} {
			checkLinks(t, s, w)
			for _, back := range []bool{false, true} {
				for rule := range 3 {
					hasNoChain(t, s, w, []impl.Link{linkOf(rule, 0, back)})
					hasNoChain(t, s, w, []impl.Link{linkOf(rule, 0, back), linkOf(rule, 0, !back)})
				}
			}
			hasNoProof(t, s, w, w)
			hasNoProof(t, s, "", w)
			// Without links, none of them fails.
			checkChain(t, s, w, nil)
		}
	}
	if n < 60 {
		t.Errorf("only %d systems are not valid", n)
	}
}

func TestChains(t *testing.T) {
	full := strings.Repeat("a", 16)
	cases := []struct {
		system string
		w      string
		links  string
		words  string
	}{
		{"2 ba>ab", "ba", "", "ba"}, {"2 ba>ab", "", "", "."}, {"2", "ab", "", "ab"}, {"2 ab>ba", "\xffé", "", "\xffé"}, {"1 a>.", full + "a", "", full + "a"},
		{"2 ba>ab", "ba", "+0@0", "ba ab"}, {"2 ba>ab", "ab", "-0@0", "ab ba"}, {"2 ba>ab", "ba", "+0@0 -0@0", "ba ab ba"},
		{"2 ba>ab", "baba", "+0@2 +0@0 +0@1 -0@1 -0@0 -0@2", "baba baab abab aabb abab baab baba"},
		{"2 ab>.", "", "-0@0 -0@1 -0@4 +0@4 +0@1 +0@0", ". ab aabb aabbab aabb ab ."},
		{"2 ab>. b>a", "bb", "+1@0 +0@0 -0@0 -1@0", "bb ab . ab bb"}, {"3 cc>b bc>a", "a", "-1@0 -0@0", "a bc ccc"}, {"2 a>b b>aa", "a", "+0@0 +1@0 +0@1 -0@1 -1@0 -0@0", "a b aa ab aa b a"}, {"2 a>a", "ba", "+0@1 -0@1", "ba ba ba"},
		// A link fails at the beginning, in the middle, or at the end.
		{"2 ba>ab", "ba", "-0@0", "-"}, {"2 ba>ab", "ba", "+0@0 +0@0", "-"}, {"2 ba>ab", "ba", "+0@0 +0@0 -0@0", "-"}, {"2 ba>ab", "ba", "+0@0 -0@0 +1@0", "-"}, {"2 ba>ab", "ba", "+-1@0 +0@0", "-"}, {"2 ba>ab", "", "+0@0", "-"}, {"2 ba>ab", "baba", "+0@2 +0@0 +0@1 -0@0 -0@2", "-"}, {"2 ab>.", "", "-0@0 -0@1 -0@4 +0@0", "-"},
		// A word becomes too long, also if it would become short again.
		{"1 a>.", full, "-0@0 +0@0", "-"}, {"1 a>.", full, "+0@0 -0@0", full + " " + full[1:] + " " + full}, {"1 a>aa", full[1:], "+0@0 -0@0 +0@0", full[1:] + " " + full + " " + full[1:] + " " + full}, {"1 a>aa", full[1:], "+0@0 +0@0 -0@0", "-"},
		// Strings that are no words.
		{"1 a>.", full + "a", "+0@16", full + "a " + full}, {"1 a>.", full + "a", "+0@16 -0@16", "-"}, {"1 a>.", full + "aa", "+0@16 +0@16", "-"}, {"1 a>.", "b\xff", "-0@1 +0@1 -0@2", "b\xff ba\xff b\xff b\xffa"},
	}
	for _, c := range cases {
		s, links, want := parsed(t, c.system), linksOf(t, c.links), wordsIn(c.words)
		if words, ok := impl.ChainOf(s, c.w, links); !slices.Equal(words, want) || ok != (len(want) > 0) {
			t.Errorf("ChainOf(%q, %q, %q) = %q, %v, want %q", c.system, c.w, c.links, words, ok, want)
		}
		checkChain(t, s, c.w, links)
	}
}

// TestIsProof has chains that lead to a word, and words that are another one's end, or only on the way.
func TestIsProof(t *testing.T) {
	cases := []struct {
		system string
		u, v   string
		links  string
		want   bool
	}{
		{"2 ba>ab", "ba", "ab", "+0@0", true}, {"2 ba>ab", "ba", "ba", "+0@0", false}, {"2 ba>ab", "ab", "ba", "+0@0", false}, {"2 ba>ab", "ab", "ba", "-0@0", true}, {"2 ba>ab", "ab", "ab", "-0@0 +0@0", true}, {"2 ba>ab", "ab", "ba", "-0@0 +0@0", false},
		{"2 ba>ab", "ba", "ba", "", true}, {"2 ba>ab", "ba", "ab", "", false}, {"2 ba>ab", "", "", "", true}, {"2 ba>ab", "", "a", "", false}, {"2", "\xff", "\xff", "", true}, {"2", "\xff", "\xfe", "", false},
		{"2 ba>ab", "baba", "aabb", "+0@0 +0@2 +0@1", true}, {"2 ba>ab", "baba", "aabb", "+0@2 +0@0 +0@1", true}, {"2 ba>ab", "baba", "abab", "+0@0 +0@2 +0@1", false}, {"2 ba>ab", "baba", "abab", "+0@0 +0@2", true}, {"2 ba>ab", "baba", "aabb", "+0@0 +0@2", false}, {"2 ba>ab", "baba", "aabb", "+0@0 +0@1 +0@2", false},
		{"2 ab>.", "", "aabb", "-0@0 -0@1", true}, {"2 ab>.", "", "abab", "-0@0 -0@1", false}, {"2 ab>.", "", "abab", "-0@0 -0@2", true}, {"2 ab>.", "", "abab", "-0@0 -0@0", true}, {"2 ab>.", "ab", "", "+0@0", true}, {"2 ab>.", "ab", "", "+0@1", false}, {"2 ab>.", "", "", "+0@0", false},
		{"2 bb>a", "ab", "ba", "-0@0 +0@1", true}, {"2 bb>a", "ab", "ba", "-0@0 +0@0", false}, {"1 a>aa", "a", "aaa", "+0@0 +0@1", true}, {"1 a>aa", "a", "aa", "+0@0 +0@1", false},
	}
	for _, c := range cases {
		s, links := parsed(t, c.system), linksOf(t, c.links)
		if got := impl.IsProof(s, c.u, c.v, links); got != c.want {
			t.Errorf("IsProof(%q, %q, %q, %q) is %v", c.system, c.u, c.v, c.links, got)
		}
		checkChain(t, s, c.u, links)
	}
}

// TestChainsOfManyLinks has as many links as a chain may have, and one more.
func TestChainsOfManyLinks(t *testing.T) {
	s, w := parsed(t, "2 a>b b>a"), strings.Repeat("a", 16)
	links := slices.Repeat(linksOf(t, "+0@0 +1@0 -1@0 -0@0 +0@15 +0@2 -0@15 -0@2"), 200)
	for _, n := range []int{198, 199, 200} {
		if !checkChain(t, s, w, links[:n]) {
			t.Fatalf("%d links are no chain", n)
		}
	}
	for _, n := range []int{201, 202, 1200} {
		hasNoChain(t, s, w, links[:n])
		turned, back := impl.TurnProof(links[:n]), 0
		for i, x := range turned {
			y := links[n-1-i]
			if x != linkOf(y.Rule, y.Place, !y.Back) {
				t.Fatalf("TurnProof of %d links has %v at %d", n, x, i)
			}
			if y.Back {
				back++
			}
		}
		if len(turned) != n || impl.CountBack(links[:n]) != back || impl.CountBack(turned) != n-back {
			t.Errorf("TurnProof has %d links of %d, CountBack is %d and %d, want %d", len(turned), n, impl.CountBack(links[:n]), impl.CountBack(turned), back)
		}
	}
	// Also where the links that are too many come back to words.
	hasNoChain(t, parsed(t, "1 a>a"), "a", make([]impl.Link, 201))
	if left, ok := impl.ShortenProof(parsed(t, "1 a>a"), "a", make([]impl.Link, 200)); len(left) != 0 || !ok {
		t.Errorf("ShortenProof of 200 links that change nothing is %v, %v", left, ok)
	}
	for _, i := range []int{0, 1, 100, 199} {
		failing := slices.Clone(links[:200])
		failing[i].Rule = 2
		hasNoChain(t, s, w, failing)
	}
	for _, other := range append(invalidSystems(), parsed(t, "1 a>a")) {
		hasNoChain(t, other, "a", make([]impl.Link, 201))
		hasNoChain(t, other, "a", make([]impl.Link, 200000))
	}
}

// TestChainsWithoutReturns goes through all words of eight letters, changing one letter each time.
func TestChainsWithoutReturns(t *testing.T) {
	s, w := parsed(t, "2 a>b b>a"), []byte("aaaaaaaa")
	var links []impl.Link
	for n := 1; n < 256; n++ {
		place := bits.TrailingZeros(uint(n))
		links = append(links, linkOf(int(w[place]-'a'), place, false))
		w[place] = 'a' + 'b' - w[place]
	}
	for _, n := range []int{1, 100, 199, 200} {
		left, ok := impl.ShortenProof(s, "aaaaaaaa", links[:n])
		if !checkChain(t, s, "aaaaaaaa", links[:n]) || !slices.Equal(left, links[:n]) || !ok {
			t.Errorf("ShortenProof leaves %d of %d links, %v", len(left), n, ok)
		}
	}
	hasNoChain(t, s, "aaaaaaaa", links[:201])
	hasNoChain(t, s, "aaaaaaaa", links)
	// All links but the last one come back.
	round := append(slices.Clone(links[:99]), impl.TurnProof(links[:99])...)
	if left, ok := impl.ShortenProof(s, "aaaaaaaa", append(round, linkOf(1, 4, true))); !slices.Equal(left, []impl.Link{linkOf(1, 4, true)}) || !ok {
		t.Errorf("ShortenProof leaves %v, %v", left, ok)
	}
}

func TestTurnProof(t *testing.T) {
	cases := []struct{ links, want string }{
		{"", ""}, {"+0@0", "-0@0"}, {"-0@0", "+0@0"}, {"+0@0 +1@2", "-1@2 -0@0"}, {"+0@0 -1@2 +3@4", "-3@4 +1@2 -0@0"}, {"-5@6 -5@6 +5@6", "-5@6 +5@6 +5@6"}, {"+-1@-2 -99@-9", "+99@-9 --1@-2"},
		{"+1@1 +2@2 +3@3 -4@4 -5@5 -6@6 -7@7", "+7@7 +6@6 +5@5 +4@4 -3@3 -2@2 -1@1"},
	}
	for _, c := range cases {
		if got := impl.TurnProof(linksOf(t, c.links)); !slices.Equal(got, linksOf(t, c.want)) {
			t.Errorf("TurnProof(%q) = %v, want %q", c.links, got, c.want)
		}
	}
	if got := impl.TurnProof(nil); len(got) != 0 {
		t.Errorf("TurnProof(nil) = %v", got)
	}
}

func TestCountBack(t *testing.T) {
	cases := []struct {
		links string
		want  int
	}{
		{"", 0}, {"+0@0", 0}, {"-0@0", 1}, {"+0@0 +1@0 +2@0", 0}, {"-0@0 -0@0 -0@0 -0@0", 4}, {"-0@0 +0@0 -1@1", 2}, {"+0@0 -0@0", 1}, {"-0@0 +0@0", 1}, {"--7@-7 +-7@-7", 1},
	}
	for _, c := range cases {
		if got := impl.CountBack(linksOf(t, c.links)); got != c.want {
			t.Errorf("CountBack(%q) = %d, want %d", c.links, got, c.want)
		}
	}
	if got := impl.CountBack(nil); got != 0 {
		t.Errorf("CountBack(nil) = %d", got)
	}
	for _, n := range []int{200, 201, 5000} {
		if forth, back := impl.CountBack(make([]impl.Link, n)), impl.CountBack(slices.Repeat([]impl.Link{{Back: true}}, n)); forth != 0 || back != n {
			t.Errorf("CountBack of %d links is %d, and %d if all have Back", n, forth, back)
		}
	}
}

func TestPeakOf(t *testing.T) {
	full := strings.Repeat("a", 16)
	cases := []struct {
		system string
		w      string
		links  string
		want   int
	}{
		{"2 ba>ab", "ab", "", 0}, {"2 ba>ab", "ab", "-0@0", 1}, {"2 ba>ab", "ba", "+0@0", 0}, {"2 ba>ab", "baba", "+0@0 +0@2 +0@1", 0}, {"2 ba>ab", "aabb", "-0@1 -0@0 -0@2", 3}, {"2 ba>ab", "abab", "-0@2 +0@2", 1},
		// The greatest word several times: at both ends, at the beginning, at the end, and only within.
		{"2 ba>ab", "ba", "+0@0 -0@0", 0}, {"2 ba>ab", "ba", "+0@0 -0@0 +0@0 -0@0", 0}, {"2 ba>ab", "ba", "+0@0 -0@0 +0@0", 0}, {"2 ba>ab", "ab", "-0@0 +0@0 -0@0", 1}, {"2 ba>ab", "ab", "-0@0 +0@0 -0@0 +0@0", 1}, {"3 c>b b>a", "a", "-1@0 -0@0 +0@0 -0@0", 2}, {"1 a>a", "a", "+0@0 -0@0 +0@0", 0}, {"3 c>b b>a", "b", "+1@0 -1@0 -0@0 +0@0 +1@0 -1@0 -0@0", 3},
		// A longer word is greater, whatever its letters.
		{"2 b>aa", "b", "+0@0", 1}, {"2 b>aa", "aa", "-0@0", 0}, {"2 b>aa", "bb", "+0@0 -0@0", 1}, {"4 d>aa aa>b", "d", "+0@0 +1@0", 1}, {"2 ab>.", "bb", "-0@2 +0@2", 1}, {"2 ab>.", "", "-0@0 -0@2 -0@0 +0@2", 3}, {"1 a>.", full, "+0@0 +0@0 -0@0 -0@0", 0}, {"1 a>.", full[1:], "-0@0 +0@0", 1},
		// Of the same length, the first letters count.
		{"2 b>a", "ab", "+0@1 -0@0 +0@0 -0@1", 2}, {"2 b>a", "bbaa", "+0@1 +0@0 -0@3 -0@2", 0}, {"4 b>a d>c", "ad", "+1@1 -0@0 -1@1", 3}, {"4 b>a d>c", "ad", "-0@0 +1@1 +0@0", 1},
		// Other bytes count as they are, without a sign, and bytes count one by one.
		{"1 a>.", "\xff", "-0@0 +0@0 -0@1", 3}, {"1 a>.", "\x00", "-0@0 +0@0 -0@1", 1}, {"1 aa>a", "\x7faa\x80", "+0@1 -0@1", 0}, {"1 a>.", full + "a", "+0@16", 0}, {"1 a>.", "éé", "-0@1 +0@1 -0@2 +0@2 -0@3", 5},
	}
	for _, c := range cases {
		s, links := parsed(t, c.system), linksOf(t, c.links)
		if got, ok := impl.PeakOf(s, c.w, links); got != c.want || !ok {
			t.Errorf("PeakOf(%q, %q, %q) = %d, %v, want %d", c.system, c.w, c.links, got, ok, c.want)
		}
		checkChain(t, s, c.w, links)
	}
}

// TestShortenProof has the same rules several times, so that the links that are left can be told from others that lead to the same word.
func TestShortenProof(t *testing.T) {
	cases := []struct {
		system string
		w      string
		links  string
		want   string
	}{
		// No word twice, and no links.
		{"2 ba>ab", "ba", "", ""}, {"2 ba>ab", "", "", ""}, {"2 ba>ab", "ba", "+0@0", "+0@0"}, {"2 ba>ab", "baba", "+0@2 +0@0 +0@1", "+0@2 +0@0 +0@1"}, {"2 bb>a", "ab", "-0@0 +0@1", "-0@0 +0@1"},
		// From a word to itself.
		{"2 ba>ab", "ba", "+0@0 -0@0", ""}, {"2 ba>ab", "ab", "-0@0 +0@0", ""}, {"1 a>a", "a", "+0@0", ""}, {"1 a>a", "aa", "+0@0 -0@1 +0@1", ""}, {"3 c>b b>a", "c", "+0@0 +1@0 -1@0 -0@0", ""}, {"2 ba>ab", "baba", "+0@0 +0@2 -0@0 -0@2", ""}, {"2 b>a b>a", "b", "+0@0 -1@0 +1@0 -0@0", ""},
		// Back once: at the beginning, in the middle, and at the end.
		{"2 b>a b>a", "b", "+0@0 -1@0 +1@0", "+1@0"}, {"2 b>a b>a", "bb", "+0@0 -1@0 +1@1", "+1@1"}, {"2 b>a b>a b>a", "bbb", "+0@0 +1@1 -2@1 +2@2", "+0@0 +2@2"}, {"2 b>a b>a b>a", "bbb", "+0@0 +1@1 -2@1", "+0@0"}, {"2 b>a a>a", "bb", "+0@0 +1@0 +0@1", "+0@0 +0@1"}, {"2 b>a a>a", "bb", "+0@0 -1@0", "+0@0"}, {"2 b>a b>b", "bb", "+1@1 +0@0", "+0@0"},
		// Several times: one word in three and in four places, and words that come one behind the other.
		{"2 b>a b>a b>a", "b", "+0@0 -0@0 +1@0 -1@0 +2@0", "+2@0"}, {"2 b>a b>a b>a", "b", "+0@0 -0@0 +1@0 -1@0 +2@0 -2@0", ""}, {"2 b>a b>a b>a", "b", "+2@0 -0@0 +2@0 -1@0 +1@0 -2@0 +0@0", "+0@0"}, {"2 b>a b>a b>a", "bb", "+0@1 +1@0 -1@0 +1@0 -2@0 +2@0", "+0@1 +2@0"},
		{"2 b>a b>a", "bbb", "+0@0 -0@0 +1@0 +0@1 -1@1 +1@1 +0@2 -1@2", "+1@0 +1@1"}, {"2 b>a b>b a>a", "bb", "+1@0 +0@0 +2@0 +0@1 +2@1 +2@0", "+0@0 +0@1"},
		// Within what is left out, and across it: the first word decides, whatever comes back before it does.
		{"3 c>b b>a c>b", "c", "+0@0 +1@0 -1@0 -0@0 +2@0", "+2@0"}, {"3 c>b b>a c>b b>a", "c", "+0@0 +1@0 -3@0 +3@0", "+0@0 +3@0"}, {"3 c>b b>a c>a c>b", "c", "+0@0 +1@0 -2@0 +3@0", "+3@0"}, {"3 c>b b>a c>a c>b b>a", "c", "+0@0 +1@0 -2@0 +3@0 +4@0", "+3@0 +4@0"},
		{"4 d>c c>b b>a d>a c>b b>a", "d", "+0@0 +1@0 -1@0 +4@0 +2@0 -3@0 +0@0 +1@0 +5@0", "+0@0 +1@0 +5@0"}, {"4 d>c c>b b>a d>b c>b", "d", "+0@0 +1@0 +2@0 -2@0 -1@0 +4@0 +2@0 -2@0", "+0@0 +4@0"}, {"4 d>c c>b b>a d>b c>b b>a", "d", "+0@0 +1@0 +2@0 -2@0 -1@0 +4@0 +5@0", "+0@0 +4@0 +5@0"},
		// With empty words.
		{"2 ab>.", "", "-0@0 +0@0", ""}, {"2 ab>.", "", "-0@0 -0@1 +0@1 -0@2", "-0@0 -0@2"}, {"2 ab>. ab>.", "ab", "+0@0 -1@0 +1@0", "+1@0"}, {"2 ab>. ab>.", "ab", "+0@0 -1@0 -0@2 +0@0", ""},
		// Strings that are no words.
		{"1 a>. a>.", "\xff", "-0@1 +0@1 -1@1", "-1@1"}, {"1 a>. a>.", strings.Repeat("a", 17), "+0@0 +0@0 -1@0", "+0@0"},
	}
	for _, c := range cases {
		s, links := parsed(t, c.system), linksOf(t, c.links)
		if got, ok := impl.ShortenProof(s, c.w, links); !slices.Equal(got, linksOf(t, c.want)) || !ok {
			t.Errorf("ShortenProof(%q, %q, %q) = %v, %v, want %q", c.system, c.w, c.links, got, ok, c.want)
		}
		checkChain(t, s, c.w, links)
	}
}

func TestProofOf(t *testing.T) {
	cases := []struct {
		system string
		u, v   string
		links  string
		ok     bool
	}{
		{"2 ba>ab", "ba", "ab", "+0@0", true}, {"2 ba>ab", "ab", "ba", "-0@0", true}, {"2 ba>ab", "ab", "ab", "", true}, {"2 ba>ab", "", "", "", true}, {"2", "ab", "ab", "", true}, {"2", "ab", "ba", "", false},
		// A word and itself: there and back.
		{"2 ba>ab", "ba", "ba", "+0@0 -0@0", true}, {"2 ba>ab", "baba", "baba", "+0@0 +0@2 +0@1 -0@1 -0@2 -0@0", true}, {"2 ba>ab", "baba", "abab", "+0@0 +0@2 +0@1 -0@1", true}, {"2 ba>ab", "abba", "baab", "+0@2 +0@1 -0@1 -0@0", true},
		{"3 cc>b bc>a", "ccc", "a", "+0@0 +1@0", true}, {"3 cc>b bc>a", "a", "ccc", "-1@0 -0@0", true}, {"2 aa>. bb>. bab>aba", "abab", "ba", "+2@1 +0@0", true}, {"2 aa>. bb>. bab>aba", "", "abba", "-0@0 -1@1", true}, {"2 aa>. bb>. bab>aba", "baa", "bbb", "+0@1 -1@0", true}, {"2 ab>.", "abab", "aabb", "+0@0 +0@0 -0@0 -0@1", true}, {"1 aaa>.", "aaaaaaa", "aaaa", "+0@0 +0@0 -0@0", true},
		// The first of several rules at one place.
		{"2 ba>ab ba>ab", "ba", "ba", "+0@0 -0@0", true}, {"2 bb>a b>. bb>.", "bb", "a", "+0@0", true},
		// Words that are not equal.
		{"2 ba>ab", "a", "b", "", false}, {"2 ba>ab", "aab", "abb", "", false}, {"2 ba>ab", "", "a", "", false}, {"2 ba>ab", "ba", "aba", "", false}, {"1 aaa>.", "aaaa", "aa", "", false}, {"2 aa>. bb>. bab>aba", "ab", "ba", "", false},
		// Words that other links join, but the system is not complete: the forms are not equal.
		{"2 bb>a", "bbb", "ab", "+0@0", true}, {"2 bb>a", "bbb", "ba", "", false}, {"2 bb>a", "ab", "ba", "", false}, {"2 aa>. ab>b", "aab", "ab", "+0@0 -1@0", true}, {"2 ab>a ba>b", "aba", "a", "", false}, {"2 ab>a ba>b", "aba", "aa", "+0@0", true},
		// No words with the letters of the system, and systems that are not ordered.
		{"2 ba>ab", "c", "c", "", false}, {"2 ba>ab", "ba", "ca", "", false}, {"2 ba>ab", "ca", "ba", "", false}, {"1", "b", "b", "", false}, {"1", "", "b", "", false}, {"4", "e", "e", "", false}, {"2 ba>ab", strings.Repeat("a", 17), strings.Repeat("a", 17), "", false}, {"2 ba>ab", strings.Repeat("a", 16), strings.Repeat("a", 16), "", true}, {"1 a>.", "", strings.Repeat("a", 17), "", false}, {"2", "\xff", "\xff", "", false},
		{"2 ab>ba", "ab", "ba", "", false}, {"2 ab>ba", "", "", "", false}, {"1 a>a", "a", "a", "", false}, {"2 ba>ab a>aa", "ba", "ab", "", false}, {"2 b>a a>b", "b", "a", "", false},
	}
	for _, c := range cases {
		s, want := parsed(t, c.system), linksOf(t, c.links)
		if got, ok := impl.ProofOf(s, c.u, c.v); !slices.Equal(got, want) || ok != c.ok {
			t.Errorf("ProofOf(%q, %q, %q) = %v, %v, want %q, %v", c.system, c.u, c.v, got, ok, c.links, c.ok)
		}
		if _, ok := impl.ProofOf(s, c.v, c.u); ok != c.ok {
			t.Errorf("ProofOf(%q, %q, %q) is %v", c.system, c.v, c.u, ok)
		}
		if c.ok {
			checkProof(t, s, c.u, c.v)
			checkChain(t, s, c.u, want)
		}
	}
}

func TestInvalidArgumentsHaveNoProof(t *testing.T) {
	for _, s := range append(invalidSystems(), unorderedSystems()...) {
		for _, w := range []string{"", "a", "b", "ab", "ba", "aaaaaaaa", strings.Repeat("a", 16), "c", "\xff"} {
			hasNoProof(t, s, w, w)
			hasNoProof(t, s, w, "")
			hasNoProof(t, s, "a", w)
		}
	}
	for _, s := range longSystems(t) {
		for _, w := range append(oddTexts(), strings.Repeat("a", 17), strings.Repeat("ba", 9), "abcde"[:s.Letters+1]) {
			hasNoProof(t, s, w, w)
			hasNoProof(t, s, w, "")
			hasNoProof(t, s, "", w)
		}
	}
}

// TestProofsOfManyLinks counts down with the digits a, b and c and the end d, as the reductions of chapter 5 do, to find traces of every length.
func TestProofsOfManyLinks(t *testing.T) {
	s := parsed(t, "4 ba>ac ca>bc bd>ad cd>bd")
	words := map[int]string{}
	textsOf("abc", 7, func(w string) {
		if trace, ok := impl.TraceOf(s, w+"d"); ok && len(w) == 7 {
			words[len(trace)] = w + "d"
		}
	})
	for _, c := range []struct {
		there, back int
		ok          bool
	}{
		{0, 0, true}, {0, 1, true}, {1, 1, true}, {100, 99, true}, {199, 0, true}, {0, 200, true}, {200, 0, true}, {199, 1, true}, {1, 199, true}, {100, 100, true}, {150, 50, true}, {68, 132, true},
		// Both traces together are too long, and one of them alone is.
		{100, 101, false}, {101, 100, false}, {1, 200, false}, {200, 1, false}, {199, 2, false}, {200, 200, false}, {151, 50, false}, {150, 150, false}, {0, 201, false}, {201, 0, false}, {201, 201, false}, {202, 1, false}, {300, 0, false}, {0, 300, false}, {400, 400, false},
	} {
		u, v := words[c.there], words[c.back]
		if u == "" || v == "" {
			t.Fatalf("there is no trace of %d or of %d steps", c.there, c.back)
		}
		if got := checkProof(t, s, u, v); got != c.ok {
			t.Errorf("ProofOf with traces of %d and %d steps is %v", c.there, c.back, got)
		}
		if c.ok {
			links, _ := impl.ProofOf(s, u, v)
			if len(links) != c.there+c.back || impl.CountBack(links) != c.back {
				t.Errorf("ProofOf with traces of %d and %d steps has %d links", c.there, c.back, len(links))
			}
			checkChain(t, s, u, links)
		}
	}
	// The forms differ, and one of the traces is too long.
	hasNoProof(t, s, words[200], "aaaaaaa")
	hasNoProof(t, s, words[400], "aaaaaaa")
	hasNoProof(t, s, "aaaaaaa", words[400])
	// Traces that are much longer than a proof.
	for _, w := range []string{"ccccccccccd", "cccccccccccd"} {
		hasNoProof(t, s, w, w)
		hasNoProof(t, s, w, strings.Repeat("a", len(w)-1)+"d")
		hasNoProof(t, s, strings.Repeat("a", len(w)-1)+"d", w)
	}
}

// TestProofsOfAllWords takes all pairs of short words, in systems that are complete and in others.
func TestProofsOfAllWords(t *testing.T) {
	proofs, others := 0, 0
	check := func(s impl.System, n int) {
		words := wordsWith(s, n)
		for i, u := range words {
			for _, v := range words[i:] {
				if checkProof(t, s, u, v) {
					proofs++
				} else {
					others++
				}
			}
		}
	}
	n := 0
	orderedSmallSystems(func(s impl.System) {
		if n++; n%7 == 0 {
			check(s, 2)
		}
	})
	for _, s := range longSystems(t) {
		check(s, 2)
	}
	if proofs < 2000 || others < 2000 {
		t.Errorf("%d pairs of words have a proof, %d have none", proofs, others)
	}
}

// allChains calls f with all links that lead on from w, n at most, to words of at most most letters.
func allChains(s impl.System, w string, n, most int, links []impl.Link, f func(links []impl.Link)) {
	f(links)
	if n == 0 {
		return
	}
	for _, m := range movesFrom(s, w) {
		if len(m.word) <= most {
			allChains(s, m.word, n-1, most, append(slices.Clone(links), m.link), f)
		}
	}
}

// TestAllShortChains takes all chains of few links in systems of every kind.
func TestAllShortChains(t *testing.T) {
	chains, shorter := 0, 0
	for _, c := range []struct {
		system, w string
		n, most   int
	}{
		{"2 ba>ab", "abba", 8, 4}, {"2 ba>ab", "aabab", 7, 5}, {"2 ab>.", "ab", 5, 6}, {"2 ab>.", "", 5, 8}, {"1 a>aa", "aa", 5, 5}, {"2 a>b b>a", "ab", 5, 2}, {"2 bb>a", "bba", 8, 5}, {"1 a>a", "a", 9, 1}, {"2 aa>. bb>. bab>aba", "ab", 3, 6}, {"3 cc>b bc>a", "ccc", 7, 3}, {"4 d>c c>b b>a d>a", "b", 8, 1}, {"1 a>.", "b", 4, 4}, {"2 a>. b>a", "a", 3, 4},
	} {
		s := parsed(t, c.system)
		allChains(s, c.w, c.n, c.most, nil, func(links []impl.Link) {
			chains++
			checkChain(t, s, c.w, links)
			if left, _ := impl.ShortenProof(s, c.w, links); len(left) < len(links) {
				shorter++
			}
		})
	}
	if chains < 10000 || shorter < 5000 || chains-shorter < 500 {
		t.Errorf("there are %d chains, %d of which are shortened", chains, shorter)
	}
}

// TestDrawnChains draws the same systems and links each time, some of which fail.
func TestDrawnChains(t *testing.T) {
	r := rand.New(rand.NewSource(16))
	chains, failed, shorter, long := 0, 0, 0, 0
	for n := range 3000 {
		k := 1 + r.Intn(4)
		s := systemOf(k)
		for _, x := range drawnEquations(r, k, 5, 1+r.Intn(3)) {
			if x.Left != "" {
				s.Rules = append(s.Rules, x)
			}
		}
		w, most := drawnWord(r, k, 4), 3+r.Intn(4)
		if n%9 == 0 {
			w, most = drawnWord(r, k, 16), 16
		}
		count := r.Intn(13)
		if n%20 == 7 {
			count = 190 + r.Intn(16)
		}
		links := drawnLinks(r, s, w, count, most)
		if len(links) > 0 && n%4 == 0 {
			i := r.Intn(len(links))
			links[i] = linkOf(r.Intn(len(s.Rules)+1), r.Intn(4), r.Intn(2) == 0)
		}
		if !checkChain(t, s, w, links) {
			failed++
			continue
		}
		chains++
		if left, _ := impl.ShortenProof(s, w, links); len(left) < len(links) {
			shorter++
		}
		if len(links) > 12 {
			long++
		}
	}
	if chains < 1500 || failed < 200 || shorter < 500 || long < 50 {
		t.Errorf("%d lists of links are chains, %d are not, %d are shortened, and %d are long", chains, failed, shorter, long)
	}
}

// completeSystems have one reduced form for each word: finite monoids and others.
func completeSystems(t *testing.T) []impl.System {
	t.Helper()
	list := elementSystems(t)
	for _, text := range []string{"1", "2", "2 ba>ab", "3 cb>bc ca>ac ba>ab", "2 ab>.", "2 ab>. ba>.", "2 aa>a bb>b", "4 ac>. ca>. bd>. db>.", "4 ab>. cd>.", "2 aa>b ba>ab", "1 aaa>.", "2 aba>b bba>abb", "2 bbbb>aa baaaa>aaaab bbaa>aabb"} {
		s, code := impl.Complete(parsed(t, text).Letters, parsed(t, text).Rules)
		if code != impl.CoDone {
			t.Fatalf("Complete with %q returns %d", text, code)
		}
		list = append(list, s)
	}
	for _, s := range list {
		if !impl.IsComplete(s) {
			t.Fatalf("%#v is not complete", s)
		}
	}
	return list
}

// lengthFor is a length with about a hundred words.
func lengthFor(s impl.System) int {
	return []int{12, 6, 4, 3}[s.Letters-1]
}

// checkOneForm holds P2: whatever steps are made from w, the last word is its form, and the parts of w can be reduced first.
func checkOneForm(t *testing.T, s impl.System, w, form string) {
	t.Helper()
	reached := map[string]bool{}
	reachedBySteps(s, w, reached)
	for v := range reached {
		if len(stepsByPrefix(s, v)) == 0 && v != form {
			t.Fatalf("with %#v, steps lead from %q to %q and to %q", s, w, form, v)
		}
	}
	if far, ok := impl.FarForm(s, w); far != form || !ok {
		t.Fatalf("FarForm(%#v, %q) = %q, %v, want %q", s, w, far, ok, form)
	}
	for i := range len(w) + 1 {
		first, _ := impl.NormalForm(s, w[:i])
		second, _ := impl.FarForm(s, w[i:])
		if got, ok := impl.NormalForm(s, first+second); got != form || !ok {
			t.Fatalf("NormalForm(%#v, %q) = %q, %v, but that of %q is %q", s, first+second, got, ok, w, form)
		}
	}
}

// TestJoinedWordsHaveOneForm holds P2 and P5: in complete systems, chains join words exactly if they have one form, and then there is a proof.
func TestJoinedWordsHaveOneForm(t *testing.T) {
	for _, s := range completeSystems(t) {
		var words []string
		textsOf("abcd"[:s.Letters], lengthFor(s), func(w string) { words = append(words, w) })
		for _, u := range words {
			form, ok := impl.NormalForm(s, u)
			if !ok {
				t.Fatalf("NormalForm(%#v, %q) fails", s, u)
			}
			checkOneForm(t, s, u, form)
			// A proof has no word that is greater than both of its ends.
			joined := joinedWords(s, u, lengthFor(s))
			for _, v := range words {
				other, _ := impl.NormalForm(s, v)
				if isJoined := slices.Contains(joined, v); isJoined != (other == form) || checkProof(t, s, u, v) != isJoined {
					t.Fatalf("with %#v, chains join %q and %q: %v; their forms are %q and %q", s, u, v, isJoined, form, other)
				}
			}
		}
	}
}

// TestChainsOfCompleteSystems draws the same links from short words each time: all words of the chain have one form, and any two of them have a proof.
func TestChainsOfCompleteSystems(t *testing.T) {
	r := rand.New(rand.NewSource(17))
	long, proofs := 0, 0
	for _, s := range completeSystems(t) {
		for range 40 {
			w := drawnWord(r, s.Letters, 5)
			links := drawnLinks(r, s, w, 1+r.Intn(40), 8+r.Intn(9))
			checkChain(t, s, w, links)
			words, _ := impl.ChainOf(s, w, links)
			form, _ := impl.NormalForm(s, w)
			for _, v := range words {
				if other, ok := impl.NormalForm(s, v); other != form || !ok {
					t.Fatalf("with %#v, links join %q and %q, whose forms are %q and %q, %v", s, w, v, form, other, ok)
				}
				if checkProof(t, s, v, words[r.Intn(len(words))]) {
					proofs++
				}
			}
			if len(links) > 20 {
				long++
			}
		}
	}
	if long < 200 || proofs < 10000 {
		t.Errorf("%d chains are long, and %d pairs of words have a proof", long, proofs)
	}
}

// TestChainsOfOtherSystems has links that join words with two forms, where a system is not complete.
func TestChainsOfOtherSystems(t *testing.T) {
	cases := []struct{ system, u, v, links string }{
		{"2 bb>a", "ab", "ba", "-0@0 +0@1"}, {"2 ab>a ba>b", "aa", "a", "-0@0 +1@1 +0@0"}, {"3 ab>c bc>a", "cc", "aa", "-0@0 +1@1"}, {"2 aa>. ab>b aba>b", "b", "ba", "-1@0 +1@0 -2@0 +1@0"}, {"1 aaa>. aa>a", "", "a", "-0@0 +1@0 +1@0"},
	}
	for _, c := range cases {
		s, links := ordered(t, c.system), linksOf(t, c.links)
		if impl.IsComplete(s) || !impl.IsProof(s, c.u, c.v, links) || !impl.IsReduced(s, c.u) || !impl.IsReduced(s, c.v) {
			t.Errorf("%q is complete: %v, and %q leads from %q to %q: %v", c.system, impl.IsComplete(s), c.links, c.u, c.v, impl.IsProof(s, c.u, c.v, links))
		}
		checkChain(t, s, c.u, links)
		hasNoProof(t, s, c.u, c.v)
		hasNoProof(t, s, c.v, c.u)
		// The completion has a proof.
		if complete, code := impl.Complete(s.Letters, s.Rules); code == impl.CoDone && !checkProof(t, complete, c.u, c.v) {
			t.Errorf("%q and %q have no proof with %#v", c.u, c.v, complete)
		}
	}
}

// callProofs calls every function of chapter 13.
func callProofs(s impl.System, w string, links []impl.Link) {
	for _, x := range links {
		impl.ApplyLink(s, w, x)
	}
	impl.ChainOf(s, w, links)
	impl.IsProof(s, w, w, links)
	impl.ProofOf(s, w, w)
	impl.ProofOf(s, w, "ab")
	impl.TurnProof(links)
	impl.ShortenProof(s, w, links)
	impl.PeakOf(s, w, links)
	impl.CountBack(links)
}

// sparedLinks is the list with spare capacity behind it, and the whole of it.
func sparedLinks(links []impl.Link) ([]impl.Link, []impl.Link) {
	whole := append(slices.Clone(links), linkOf(-7, -7, true), linkOf(-8, -8, false), linkOf(-9, -9, true), linkOf(-10, -10, false))
	return whole[:len(links)], whole
}

// fillLinks changes all of a list, also behind its end.
func fillLinks(links []impl.Link) {
	for i := range links[:cap(links)] {
		links[:cap(links)][i] = linkOf(99, 99, i%2 == 0)
	}
}

// someChains are lists of links of which a part is left out at the beginning, in the middle, at the end, everywhere, and nowhere, and links that fail.
func someChains(t *testing.T) [][]impl.Link {
	var list [][]impl.Link
	for _, text := range []string{
		"", "+0@0", "+0@0 +1@0 -0@1", "+0@0 -0@0 +0@1", "+0@0 -0@0 +0@1 -0@2", "+0@0 +0@1 -0@1 +0@2", "+0@0 +0@1 -0@1", "+0@0 -0@0", "+0@0 +0@1 -0@1 -0@0", "+0@0 -0@0 +0@0 -0@0 +0@0", "+0@2 +0@1 -0@1 +0@0 -0@0 +0@0 -0@2 +0@2", "+0@1 +0@0 -0@0 +0@2 -0@2",
		"+0@9", "+0@0 +0@0", "-1@0 +7@7", "+-1@-1 -0@0", "+0@0 -0@0 +0@5",
	} {
		list = append(list, linksOf(t, text))
	}
	return list
}

// TestProofArgumentsAreKept holds chapter 1 against the functions of chapter 13.
func TestProofArgumentsAreKept(t *testing.T) {
	systems := slices.Concat([]impl.System{parsed(t, "2 b>a a>."), parsed(t, "2 b>a")}, longSystems(t), unorderedSystems(), invalidSystems())
	for _, s := range systems {
		for _, list := range append(someChains(t), slices.Repeat(linksOf(t, "+0@0 -0@0"), 100), slices.Repeat(linksOf(t, "+0@0 -0@0"), 101)) {
			for _, w := range []string{"", "bbb", "bab", "abba", "\xff", strings.Repeat("b", 17)} {
				rules, allRules := spared(s.Rules)
				links, allLinks := sparedLinks(list)
				rulesBefore, linksBefore := slices.Clone(allRules), slices.Clone(allLinks)
				callProofs(impl.System{Letters: s.Letters, Rules: rules}, w, links)
				if !slices.Equal(allRules, rulesBefore) || !slices.Equal(allLinks, linksBefore) {
					t.Fatalf("with %q, the rules of %#v became %q, or the links %v became %v", w, s, allRules, linksBefore, allLinks)
				}
			}
		}
	}
}

// TestProofResultsAreNew changes the results, also behind their ends, and looks at the arguments and at second results.
func TestProofResultsAreNew(t *testing.T) {
	s, found := parsed(t, "2 b>a a>."), 0
	for _, list := range someChains(t) {
		links, whole := sparedLinks(list)
		before := slices.Clone(whole)
		ask := []func() []impl.Link{
			func() []impl.Link { return impl.TurnProof(links) },
			func() []impl.Link {
				left, _ := impl.ShortenProof(s, "bbb", links)
				return left
			},
			func() []impl.Link {
				proof, _ := impl.ProofOf(s, "bab"[:len(links)%4], "")
				return proof
			},
		}
		for i, get := range ask {
			first, second := get(), get()
			want := slices.Clone(second)
			if len(want) > 0 {
				found++
			}
			fillLinks(first)
			if !slices.Equal(whole, before) || !slices.Equal(second, want) || !slices.Equal(get(), want) {
				t.Errorf("a change of result %d of %v, which was %v, changed %v, or %v, or %v", i, before, want, whole, second, get())
			}
			// What is added to a result is no other one's, either.
			_ = append(get(), linkOf(99, 99, true))
			if !slices.Equal(whole, before) || !slices.Equal(second, want) {
				t.Errorf("what is added to result %d of %v changed %v or %v", i, before, whole, second)
			}
		}
		words, ok := impl.ChainOf(s, "bbb", links)
		want := slices.Clone(words)
		for i := range words[:cap(words)] {
			words[:cap(words)][i] = "?"
		}
		if again, _ := impl.ChainOf(s, "bbb", links); ok && !slices.Equal(again, want) {
			t.Errorf("a change of %q changed %q", want, again)
		}
	}
	if found < 20 {
		t.Errorf("only %d results have links", found)
	}
	if got := impl.FormatSystem(s); got != "2 b>a a>." {
		t.Errorf("the system became %q", got)
	}
}

// TestProofsAreTheSameEachTime asks several times at once, with other arguments in between.
func TestProofsAreTheSameEachTime(t *testing.T) {
	s, chains, systems, others := parsed(t, "2 b>a a>."), someChains(t), completeSystems(t), invalidSystems()
	var wait sync.WaitGroup
	for n := range 8 {
		wait.Go(func() {
			for i := range 60 {
				links := chains[(n+i)%len(chains)]
				if words, ok := chainBySearch(s, "bbb", links); ok {
					left, _ := impl.ShortenProof(s, "bbb", links)
					peak, _ := impl.PeakOf(s, "bbb", links)
					if !slices.Equal(left, shortenedOnTheWay(words, links)) || peak != peakBySorting(words) || !slices.Equal(impl.TurnProof(links), turnedOneByOne(links)) {
						t.Errorf("the links %v give %v and the peak %d", links, left, peak)
					}
				}
				callProofs(others[i%len(others)], "ba", links)
				other := systems[(n+i)%len(systems)]
				want, _ := proofByTraces(other, "aaaa", "aaa")
				if proof, _ := impl.ProofOf(other, "aaaa", "aaa"); !slices.Equal(proof, want) {
					t.Errorf("ProofOf(%#v, aaaa, aaa) = %v, want %v", other, proof, want)
				}
			}
		})
	}
	wait.Wait()
}
