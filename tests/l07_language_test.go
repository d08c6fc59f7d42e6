package tests

import (
	"math"
	"math/rand"
	"slices"
	"strings"
	"sync"
	"testing"

	"loop.example/g03201/impl"
)

// isFree reports whether w contains no Left.
func isFree(s impl.System, w string) bool {
	for _, r := range s.Rules {
		if strings.Contains(w, r.Left) {
			return false
		}
	}
	return true
}

// freeWords are lists of the reduced words of 0 to n letters in bytewise order: each letter is tried behind each shorter one.
func freeWords(s impl.System, n int) [][]string {
	lists := [][]string{{""}}
	for length := 1; length <= n; length++ {
		var longer []string
		for _, w := range lists[length-1] {
			for _, x := range strings.Split("abcd"[:s.Letters], "") {
				if isFree(s, w+x) {
					longer = append(longer, w+x)
				}
			}
		}
		lists = append(lists, longer)
	}
	return lists
}

// lastLetters are as many letters of the end of w as a Left can have before its last one.
func lastLetters(s impl.System, w string) string {
	most := 0
	for _, r := range s.Rules {
		most = max(most, len(r.Left)-1)
	}
	return w[max(0, len(w)-most):]
}

// oracle knows, by the last letters of a word, what can follow it.
type oracle struct {
	s     impl.System
	count map[followed]int
	rest  map[string]int
}

// followed is the last letters of a word and how many letters follow.
type followed struct {
	last string
	n    int
}

func oracleOf(s impl.System) *oracle {
	return &oracle{s: s, count: map[followed]int{}, rest: map[string]int{}}
}

// withLetter are the last letters of the reduced words with one letter more.
func (o *oracle) withLetter(last string) []string {
	var list []string
	for _, x := range strings.Split("abcd"[:o.s.Letters], "") {
		if isFree(o.s, last+x) {
			list = append(list, lastLetters(o.s, last+x))
		}
	}
	return list
}

func (o *oracle) countFollowing(last string, n int) int {
	if n == 0 {
		return 1
	}
	key := followed{last, n}
	if count, ok := o.count[key]; ok {
		return count
	}
	for _, longer := range o.withLetter(last) {
		o.count[key] += o.countFollowing(longer, n-1)
	}
	return o.count[key]
}

// countBeginning is the number of reduced words of n letters with this beginning.
func (o *oracle) countBeginning(beginning string, n int) int {
	if !isFree(o.s, beginning) {
		return 0
	}
	return o.countFollowing(lastLetters(o.s, beginning), n-len(beginning))
}

// countBelow is the number of reduced words with the length of w that are less than w.
func (o *oracle) countBelow(w string) int {
	count := 0
	for i := range len(w) {
		for x := byte('a'); x < w[i]; x++ {
			count += o.countBeginning(w[:i]+string(rune(x)), len(w))
		}
	}
	return count
}

// longestAfter goes to all last letters that can follow; it returns -1 if it comes to some of them again on one way.
func (o *oracle) longestAfter(last string) int {
	if rest, met := o.rest[last]; met {
		return rest
	}
	o.rest[last] = -1
	longest := 0
	for _, longer := range o.withLetter(last) {
		rest := o.longestAfter(longer)
		if rest < 0 {
			return -1
		}
		longest = max(longest, rest+1)
	}
	o.rest[last] = longest
	return longest
}

func (o *oracle) longest() int {
	return o.longestAfter("")
}

// nextFree is NextReduced by trying all words in order; without a reduced word of one length, there is no longer one.
func nextFree(s impl.System, w string) (string, bool) {
	for n := len(w); n <= min(len(w)+1, 16); n++ {
		list, ok := impl.WordsOf(s.Letters, n)
		if !ok {
			panic("too many words to try")
		}
		for _, v := range list {
			if lessByBytes(w, v) && isFree(s, v) {
				return v, true
			}
		}
	}
	return "", false
}

// checkCounts holds the functions that take a length against lists, for all lengths from 0 to n.
func checkCounts(t *testing.T, s impl.System, n int) {
	t.Helper()
	var growth []int
	for length, want := range freeWords(s, n) {
		growth = append(growth, len(want))
		if got := impl.CountReduced(s, length); got != len(want) {
			t.Fatalf("CountReduced(%#v, %d) = %d, want %d", s, length, got, len(want))
		}
		if got := impl.GrowthOf(s, length); !slices.Equal(got, growth) {
			t.Fatalf("GrowthOf(%#v, %d) = %v, want %v", s, length, got, growth)
		}
		few := len(want) <= 256
		if !few {
			want = nil
		}
		if got, ok := impl.ReducedWords(s, length); !slices.Equal(got, want) || ok != few {
			t.Fatalf("ReducedWords(%#v, %d) = %q, %v, want %q, %v", s, length, got, ok, want, few)
		}
	}
}

// checkAll holds the functions about all words against last letters and lists.
func checkAll(t *testing.T, s impl.System) {
	t.Helper()
	o := oracleOf(s)
	longest, count := o.longest(), -1
	var want []string
	if longest >= 0 {
		count = 0
		for n := range longest + 1 {
			count += o.countBeginning("", n)
		}
	}
	few := 0 <= count && count <= 256
	if few {
		want = slices.Concat(freeWords(s, longest)...)
	}
	if got := impl.LongestReduced(s); got != longest {
		t.Fatalf("LongestReduced(%#v) = %d, want %d", s, got, longest)
	}
	if got := impl.CountAll(s); got != count {
		t.Fatalf("CountAll(%#v) = %d, want %d", s, got, count)
	}
	if got, ok := impl.AllReduced(s); !slices.Equal(got, want) || ok != few {
		t.Fatalf("AllReduced(%#v) = %q, %v, want %q, %v", s, got, ok, want, few)
	}
}

func checkNext(t *testing.T, s impl.System, w, want string, wantOk bool) {
	t.Helper()
	if got, ok := impl.NextReduced(s, w); got != want || ok != wantOk {
		t.Errorf("NextReduced(%#v, %q) = %q, %v, want %q, %v", s, w, got, ok, want, wantOk)
	}
}

// checkNextByCounts holds NextReduced of a long word against the numbers of the words below and above.
func checkNextByCounts(t *testing.T, o *oracle, w string) {
	t.Helper()
	upTo := o.countBelow(w)
	if isFree(o.s, w) {
		upTo++
	}
	got, ok := impl.NextReduced(o.s, w)
	switch {
	case upTo < o.countBeginning("", len(w)):
		if !ok || len(got) != len(w) || got <= w || !isFree(o.s, got) || o.countBelow(got) != upTo {
			t.Fatalf("NextReduced(%#v, %q) = %q, %v", o.s, w, got, ok)
		}
	case len(w) < 16 && o.countBeginning("", len(w)+1) > 0:
		if !ok || len(got) != len(w)+1 || !isFree(o.s, got) || o.countBelow(got) != 0 {
			t.Fatalf("NextReduced(%#v, %q) = %q, %v, want the first word with a letter more", o.s, w, got, ok)
		}
	default:
		if got != "" || ok {
			t.Fatalf("NextReduced(%#v, %q) = %q, %v, want none", o.s, w, got, ok)
		}
	}
}

// checkWalk goes from the empty word to the next one and so on, and must meet the words of at most n letters, and none more if there are none.
func checkWalk(t *testing.T, s impl.System, n int) {
	t.Helper()
	w, ok := "", true
	for _, want := range slices.Concat(freeWords(s, n)...) {
		if w != want || !ok {
			t.Fatalf("the walk through %#v comes to %q, %v, want %q", s, w, ok, want)
		}
		w, ok = impl.NextReduced(s, w)
	}
	if ok && len(w) <= n || ok != (n < 16 && oracleOf(s).countBeginning("", n+1) > 0) {
		t.Fatalf("the walk through %#v comes to %q, %v behind %d letters", s, w, ok, n)
	}
}

// hasNoLanguage checks that no function of chapter 8 takes the system.
func hasNoLanguage(t *testing.T, s impl.System) {
	t.Helper()
	for _, n := range []int{0, 1, 3, 16, -1, 17} {
		hasNoLength(t, s, n)
	}
	if n := impl.LongestReduced(s); n != -1 {
		t.Errorf("LongestReduced(%#v) = %d", s, n)
	}
	if n := impl.CountAll(s); n != -1 {
		t.Errorf("CountAll(%#v) = %d", s, n)
	}
	if list, ok := impl.AllReduced(s); len(list) != 0 || ok {
		t.Errorf("AllReduced(%#v) = %q, %v", s, list, ok)
	}
	for _, w := range []string{"", "a", "b", "ba", strings.Repeat("a", 16), "e", "\xff"} {
		checkNext(t, s, w, "", false)
	}
}

func hasNoLength(t *testing.T, s impl.System, n int) {
	t.Helper()
	if got := impl.CountReduced(s, n); got != -1 {
		t.Errorf("CountReduced(%#v, %d) = %d", s, n, got)
	}
	if got, ok := impl.ReducedWords(s, n); len(got) != 0 || ok {
		t.Errorf("ReducedWords(%#v, %d) = %q, %v", s, n, got, ok)
	}
	if got := impl.GrowthOf(s, n); len(got) != 0 {
		t.Errorf("GrowthOf(%#v, %d) = %v", s, n, got)
	}
}

func TestSystemsWithoutOrderHaveNoLanguage(t *testing.T) {
	for _, s := range append(invalidSystems(), unorderedSystems()...) {
		hasNoLanguage(t, s)
	}
	for _, s := range someSystems() {
		if !impl.SystemOk(s) {
			hasNoLanguage(t, s)
		}
	}
	for b := range 256 {
		// A Left or a Right of one byte: a Left may be each letter of the system, and its Right be empty.
		x := string([]byte{byte(b)})
		for k := 1; k <= 4; k++ {
			s := systemOf(k, ruleOf(x, ""))
			if 'a' <= b && b < 'a'+k {
				checkAll(t, s)
				checkCounts(t, s, 2)
				continue
			}
			hasNoLanguage(t, s)
			hasNoLanguage(t, systemOf(k, ruleOf("aa", ""), ruleOf("aaaa", "a"+x)))
		}
	}
}

func TestLengthsOfWords(t *testing.T) {
	for _, s := range append(longSystems(t), systemOf(1, manyRules(12)...)) {
		for _, n := range []int{-1, 17, -2, 18, 256, -256, 1 << 32, math.MaxInt, math.MinInt} {
			hasNoLength(t, s, n)
		}
		for _, n := range []int{0, 16} {
			want := oracleOf(s).countBeginning("", n)
			if got := impl.CountReduced(s, n); got != want || n == 0 && got != 1 {
				t.Errorf("CountReduced(%#v, %d) = %d, want %d", s, n, got, want)
			}
			if got := impl.GrowthOf(s, n); len(got) != n+1 || got[n] != want || got[0] != 1 {
				t.Errorf("GrowthOf(%#v, %d) = %v", s, n, got)
			}
			if got, ok := impl.ReducedWords(s, n); ok != (want <= 256) || ok && len(got) != want || !ok && len(got) != 0 || n == 0 && !slices.Equal(got, []string{""}) {
				t.Errorf("ReducedWords(%#v, %d) = %q, %v", s, n, got, ok)
			}
		}
	}
}

func TestGrowthOf(t *testing.T) {
	cases := []struct {
		system string
		want   []int
	}{
		// No rules: powers of the number of letters.
		{"1", []int{1, 1, 1, 1, 1, 1, 1, 1, 1, 1, 1, 1, 1, 1, 1, 1, 1}},
		{"2", []int{1, 2, 4, 8, 16, 32, 64, 128, 256, 512, 1024, 2048, 4096, 8192, 16384, 32768, 65536}},
		{"3", []int{1, 3, 9, 27, 81, 243, 729, 2187, 6561, 19683, 59049, 177147, 531441, 1594323, 4782969, 14348907, 43046721}},
		{"4", []int{1, 4, 16, 64, 256, 1024, 4096, 16384, 65536, 262144, 1048576, 4194304, 16777216, 67108864, 268435456, 1073741824, 4294967296}},
		// A Left of one letter leaves the words of the others, and all of them leave the empty word.
		{"1 a>.", []int{1, 0, 0, 0, 0, 0, 0, 0, 0, 0, 0, 0, 0, 0, 0, 0, 0}},
		{"2 a>.", []int{1, 1, 1, 1, 1, 1, 1, 1, 1, 1, 1, 1, 1, 1, 1, 1, 1}},
		{"2 b>a", []int{1, 1, 1, 1, 1, 1, 1, 1, 1, 1, 1, 1, 1, 1, 1, 1, 1}},
		{"2 b>a a>.", []int{1, 0, 0, 0, 0, 0, 0, 0, 0, 0, 0, 0, 0, 0, 0, 0, 0}},
		{"4 c>.", []int{1, 3, 9, 27, 81, 243, 729, 2187, 6561, 19683, 59049, 177147, 531441, 1594323, 4782969, 14348907, 43046721}},
		{"4 a>. b>. c>. d>.", []int{1, 0, 0, 0, 0, 0, 0, 0, 0, 0, 0, 0, 0, 0, 0, 0, 0}},
		{"4 d>a c>a b>a", []int{1, 1, 1, 1, 1, 1, 1, 1, 1, 1, 1, 1, 1, 1, 1, 1, 1}},
		// The longest Left of one letter leaves the shorter powers.
		{"1 aaaaaaaa>.", []int{1, 1, 1, 1, 1, 1, 1, 1, 0, 0, 0, 0, 0, 0, 0, 0, 0}},
		{"1 aaaaaaaa>a aaa>. aaaaa>a", []int{1, 1, 1, 0, 0, 0, 0, 0, 0, 0, 0, 0, 0, 0, 0, 0, 0}},
		// Fibonacci numbers for the words without aa; sorted words by how often each letter occurs.
		{"2 aa>.", []int{1, 2, 3, 5, 8, 13, 21, 34, 55, 89, 144, 233, 377, 610, 987, 1597, 2584}},
		{"2 ba>ab", []int{1, 2, 3, 4, 5, 6, 7, 8, 9, 10, 11, 12, 13, 14, 15, 16, 17}},
		{"3 ba>ab ca>ac cb>bc", []int{1, 3, 6, 10, 15, 21, 28, 36, 45, 55, 66, 78, 91, 105, 120, 136, 153}},
		{"2 ab>. ba>.", []int{1, 2, 2, 2, 2, 2, 2, 2, 2, 2, 2, 2, 2, 2, 2, 2, 2}},
		// Spare rules change nothing: the same Left again, and Lefts that contain another one.
		{"2 aa>. aa>b aa>.", []int{1, 2, 3, 5, 8, 13, 21, 34, 55, 89, 144, 233, 377, 610, 987, 1597, 2584}},
		{"2 aaa>. baab>. aa>. aab>b baa>a", []int{1, 2, 3, 5, 8, 13, 21, 34, 55, 89, 144, 233, 377, 610, 987, 1597, 2584}},
		// No letter stands behind its inverse.
		{"4 ab>. ba>. cd>. dc>.", []int{1, 4, 12, 36, 108, 324, 972, 2916, 8748, 26244, 78732, 236196, 708588, 2125764, 6377292, 19131876, 57395628}},
	}
	for _, c := range cases {
		s := ordered(t, c.system)
		for n := range 17 {
			if got := impl.GrowthOf(s, n); !slices.Equal(got, c.want[:n+1]) {
				t.Errorf("GrowthOf(%q, %d) = %v, want %v", c.system, n, got, c.want[:n+1])
			}
			if got := impl.CountReduced(s, n); got != c.want[n] {
				t.Errorf("CountReduced(%q, %d) = %d, want %d", c.system, n, got, c.want[n])
			}
		}
	}
}

// TestGreatCounts counts the words with k letters in which the last one of these does not stand m times, one after the other.
func TestGreatCounts(t *testing.T) {
	for k := 1; k <= 4; k++ {
		for m := 1; m <= 8; m++ {
			// A word ends with i times this letter, from 0 up to m, behind one of the k - 1 others and any shorter word, or has no other letter.
			want := []int{1}
			for n := 1; n <= 16; n++ {
				count := 0
				for i := range min(m, n) {
					count += (k - 1) * want[n-i-1]
				}
				if n < m {
					count++
				}
				want = append(want, count)
			}
			s := systemOf(k, ruleOf(strings.Repeat("abcd"[k-1:k], m), ""))
			if got := impl.GrowthOf(s, 16); !slices.Equal(got, want) {
				t.Errorf("GrowthOf(%#v, 16) = %v, want %v", s, got, want)
			}
			if got := impl.CountReduced(s, 16); got != want[16] {
				t.Errorf("CountReduced(%#v, 16) = %d, want %d", s, got, want[16])
			}
		}
	}
	if got := impl.CountReduced(systemOf(4), 16); got != 1<<32 {
		t.Errorf("CountReduced of 16 of 4 letters = %d", got)
	}
	// Each of twelve Lefts of eight letters has nine places in a word, and is at each of them in 4^8 words.
	s := ordered(t, "4 abcdabcd>a bacdabdd>a cabdddda>a dabcabcc>a aabbccdd>a ddccbbaa>a acacacac>a bdbdbdbd>a dcbadcba>a aaaabbbb>a ccccdddd>a dddaaacc>a")
	if got, want := impl.CountReduced(s, 16), oracleOf(s).countBeginning("", 16); got != want || got < 1<<32-12*9*(1<<16) {
		t.Errorf("CountReduced(%#v, 16) = %d, want %d", s, got, want)
	}
}

func TestReducedWords(t *testing.T) {
	cases := []struct {
		system string
		n      int
		want   string
	}{
		{"1", 0, "."}, {"1", 1, "a"}, {"1", 16, strings.Repeat("a", 16)},
		{"2", 1, "a b"}, {"2", 2, "aa ab ba bb"}, {"4", 0, "."}, {"4", 1, "a b c d"},
		{"4", 2, "aa ab ac ad ba bb bc bd ca cb cc cd da db dc dd"},
		{"2 ba>ab", 2, "aa ab bb"}, {"2 ba>ab", 3, "aaa aab abb bbb"}, {"2 ba>ab", 0, "."},
		{"2 bb>a", 3, "aaa aab aba baa bab"}, {"2 bb>a aa>.", 4, "abab baba"}, {"2 aba>b", 3, "aaa aab abb baa bab bba bbb"},
		{"2 bb>a aa>. bab>b", 3, "aba"}, {"2 bb>a aa>. bab>b", 4, ""},
		{"3 a>.", 2, "bb bc cb cc"}, {"3 c>b b>.", 4, "aaaa"}, {"3 b>.", 1, "a c"},
		{"1 a>.", 0, "."}, {"1 a>.", 1, ""}, {"1 a>.", 16, ""}, {"2 b>a a>.", 0, "."}, {"2 b>a a>.", 1, ""}, {"4 a>. b>. c>. d>.", 0, "."}, {"4 a>. b>. c>. d>.", 3, ""},
		{"1 aaa>.", 2, "aa"}, {"1 aaa>.", 3, ""}, {"2 ab>. ba>.", 5, "aaaaa bbbbb"},
		// Words that begin in many ways but end in few.
		{"3 aa>. ab>. ac>. bb>. ba>. bc>. cccc>.", 4, "ccca cccb"}, {"3 aa>. ab>. ac>. bb>. ba>. bc>. cccc>.", 5, ""},
	}
	for _, c := range cases {
		var want []string
		for _, w := range strings.Fields(c.want) {
			want = append(want, strings.Trim(w, "."))
		}
		if got, ok := impl.ReducedWords(ordered(t, c.system), c.n); !slices.Equal(got, want) || !ok {
			t.Errorf("ReducedWords(%q, %d) = %q, %v, want %q", c.system, c.n, got, ok, want)
		}
	}
}

func TestManyReducedWords(t *testing.T) {
	cases := []struct {
		system   string
		n, count int
	}{
		{"2", 8, 256}, {"2", 9, 512}, {"4", 4, 256}, {"4", 5, 1024}, {"4", 16, 1 << 32}, {"3 a>.", 8, 256}, {"3 b>. bc>.", 9, 512}, {"4 a>. d>.", 8, 256},
		{"4 aaaa>.", 4, 255}, {"2 abba>. babb>.", 9, 255}, {"2 bbb>. baaabb>.", 9, 257}, {"2 baaa>. bbabb>.", 9, 257}, {"2 abb>. bbbbab>. abaaba>.", 11, 257},
		{"3 aa>. bb>. cc>.", 7, 192}, {"3 aa>. bb>. cc>.", 8, 384}, {"1", 16, 1}, {"2 ba>ab", 16, 17}, {"3 ba>ab ca>ac cb>bc", 16, 153},
	}
	for _, c := range cases {
		s := ordered(t, c.system)
		if got := impl.CountReduced(s, c.n); got != c.count {
			t.Errorf("CountReduced(%q, %d) = %d, want %d", c.system, c.n, got, c.count)
		}
		list, ok := impl.ReducedWords(s, c.n)
		if c.count > 256 {
			if len(list) != 0 || ok {
				t.Errorf("ReducedWords(%q, %d) has %d words, %v", c.system, c.n, len(list), ok)
			}
			continue
		}
		if want := freeWords(s, c.n)[c.n]; !slices.Equal(list, want) || len(list) != c.count || !ok {
			t.Errorf("ReducedWords(%q, %d) = %q, %v, want %q", c.system, c.n, list, ok, want)
		}
	}
}

func TestLongestReducedAndCountAll(t *testing.T) {
	cases := []struct {
		system         string
		longest, count int
	}{
		// Words of any length.
		{"1", -1, -1}, {"2", -1, -1}, {"3", -1, -1}, {"4", -1, -1}, {"2 ba>ab", -1, -1}, {"2 a>.", -1, -1}, {"2 b>.", -1, -1}, {"4 a>. b>. d>.", -1, -1},
		{"2 aa>. bb>.", -1, -1}, {"2 aaaaaaaa>. bbbbbbbb>.", -1, -1}, {"3 aaa>. bbb>.", -1, -1}, {"2 aaaa>. bbbb>. abababab>. bababa>. aabb>.", -1, -1},
		{"2 b>a aabb>. bbb>.", -1, -1}, {"4 ab>. ba>. cd>. dc>.", -1, -1}, {"2 aa>b ba>ab", -1, -1},
		// The empty word only.
		{"1 a>.", 0, 1}, {"2 a>. b>.", 0, 1}, {"2 b>a a>.", 0, 1}, {"3 c>b b>a a>.", 0, 1}, {"4 d>. c>. b>. a>.", 0, 1}, {"1 aa>a a>.", 0, 1},
		// Finitely many.
		{"1 aa>.", 1, 2}, {"1 aaa>.", 2, 3}, {"1 aaaaaaaa>.", 7, 8}, {"1 aaaaaaaa>a aaa>.", 2, 3}, {"2 b>. aaaa>a", 3, 4}, {"4 d>. c>b bb>. b>a aaa>.", 2, 3},
		{"2 aa>. bb>. ab>. ba>.", 1, 3}, {"4 aa>. ab>. ac>. ad>. ba>. bb>. bc>. bd>. c>. d>.", 1, 3}, {"2 aa>. bbb>. bab>aba", 4, 10},
		{"2 aa>. bb>. bab>aba", 3, 6}, {"2 aaa>. bb>. ba>ab", 3, 6}, {"2 aa>. bb>. baba>abab", 4, 8}, {"2 aaaa>. bb>. ba>ab", 4, 8}, {"3 aa>. bb>. cc>. ba>ab ca>ac cb>bc", 3, 8},
		{"2 aa>. bb>. abababab>. babababa>.", 7, 15},
		// At MaxWord letters and beyond: reduced words need not stop there.
		{"2 aaaaaaaa>. bbbbbbbb>. ba>ab", 14, 64}, {"3 aaaaaaaa>. bbbbbbbb>. cc>. ba>ab ca>ac cb>bc", 15, 128}, {"3 aaaaaaaa>. bbbbbbbb>. ccc>. ba>ab ca>ac cb>bc", 16, 192},
		{"4 aaaaaaaa>. bbbbbbbb>. cc>. dd>. ba>ab ca>ac da>ad cb>bc db>bd dc>cd", 16, 256},
		{"3 aaaaaaaa>. bbbbbbbb>. cccc>. ba>ab ca>ac cb>bc", 17, 256}, {"3 aaaaaaaa>. bbbbbbbb>. cccc>. ca>ac cb>bc baa>. aba>. bba>. bab>. bac>.", 17, 257},
		{"3 aaaaaaaa>. bbbbbbbb>. cccccccc>. ba>ab ca>ac cb>bc", 21, 512}, {"4 aaaaaaaa>. bbbbbbbb>. cccccccc>. dddddddd>. ba>ab ca>ac da>ad cb>bc db>bd dc>cd", 28, 4096},
		{"2 baa>. babba>. bbbab>. bbbbbbb>. abbababb>. abababab>. aaaa>.", 17, 256},
		{"2 aaabab>. bbbbbbbb>. abaabaab>. aabaaa>. bbbabbba>. baabab>. bababab>. bbabbabb>. bbababb>. aaaaaaaa>. bbbbabbb>. aabb>.", 40, 38695},
	}
	for _, c := range cases {
		s := ordered(t, c.system)
		if got := impl.LongestReduced(s); got != c.longest {
			t.Errorf("LongestReduced(%q) = %d, want %d", c.system, got, c.longest)
		}
		if got := impl.CountAll(s); got != c.count {
			t.Errorf("CountAll(%q) = %d, want %d", c.system, got, c.count)
		}
		checkAll(t, s)
	}
	for _, s := range append(longSystems(t), systemOf(1, manyRules(12)...)) {
		checkAll(t, s)
	}
}

func TestAllReduced(t *testing.T) {
	cases := []struct{ system, want string }{
		{"1 a>.", "."}, {"4 d>. c>. b>. a>.", "."}, {"1 aaa>.", ". a aa"}, {"2 aa>. bb>. ab>. ba>.", ". a b"}, {"2 a>. bb>a", ". b"},
		{"2 aa>. bb>. bab>aba", ". a b ab ba aba"}, {"2 aaa>. bb>. ba>ab", ". a b aa ab aab"},
		{"3 aa>. bb>. cc>. ba>ab ca>ac cb>bc", ". a b c ab ac bc abc"}, {"2 bb>. aaa>a aab>b bab>b", ". a b aa ab ba aba baa abaa"},
	}
	for _, c := range cases {
		var want []string
		for _, w := range strings.Fields(c.want) {
			want = append(want, strings.Trim(w, "."))
		}
		if got, ok := impl.AllReduced(ordered(t, c.system)); !slices.Equal(got, want) || !ok {
			t.Errorf("AllReduced(%q) = %q, %v, want %q", c.system, got, ok, want)
		}
	}
	// Exactly 256 words, the last ones of which are longer than MaxWord, and one word more.
	list, ok := impl.AllReduced(ordered(t, "3 aaaaaaaa>. bbbbbbbb>. cccc>. ba>ab ca>ac cb>bc"))
	if len(list) != 256 || !ok || list[0] != "" || list[255] != "aaaaaaabbbbbbbccc" || !slices.IsSortedFunc(list, orderOfWords) {
		t.Errorf("AllReduced of 256 words is %q, %v", list, ok)
	}
	for _, text := range []string{"3 aaaaaaaa>. bbbbbbbb>. cccc>. ca>ac cb>bc baa>. aba>. bba>. bab>. bac>.", "3 aaaaaaaa>. bbbbbbbb>. cccccccc>. ba>ab ca>ac cb>bc", "2 ba>ab", "1"} {
		if list, ok := impl.AllReduced(ordered(t, text)); len(list) != 0 || ok {
			t.Errorf("AllReduced(%q) = %q, %v", text, list, ok)
		}
	}
}

func orderOfWords(u, v string) int {
	if lessByBytes(u, v) {
		return -1
	}
	if lessByBytes(v, u) {
		return 1
	}
	return 0
}

func TestNextReduced(t *testing.T) {
	full := func(part string) string { return strings.Repeat(part, 16)[:16] }
	cases := []struct {
		system, w, want string
		ok              bool
	}{
		// Behind the empty word.
		{"1", "", "a", true}, {"4", "", "a", true}, {"2 a>.", "", "b", true}, {"4 a>. b>. c>.", "", "d", true}, {"1 a>.", "", "", false}, {"2 b>a a>.", "", "", false},
		// Behind reduced words, and the last ones of a length.
		{"2", "a", "b", true}, {"2", "b", "aa", true}, {"2", "bb", "aaa", true}, {"4", "abcd", "abda", true}, {"4", "addd", "baaa", true}, {"4", "dddd", "aaaaa", true},
		{"2 ba>ab", "ab", "bb", true}, {"2 ba>ab", "abb", "bbb", true}, {"2 ba>ab", "bb", "aaa", true}, {"2 ba>ab", "aabb", "abbb", true},
		{"2 aa>.", "b", "ab", true}, {"2 aa>.", "bb", "aba", true}, {"2 aa>.", "abab", "abba", true}, {"2 aa>. bb>.", "ab", "ba", true}, {"2 aa>. bb>.", "ba", "aba", true},
		{"3 ba>ab ca>ac cb>bc", "abc", "acc", true}, {"3 ba>ab ca>ac cb>bc", "acc", "bbb", true},
		// Behind words that are not reduced: they may begin with a Left, or have it at the end.
		{"2 ba>ab", "ba", "bb", true}, {"2 ba>ab", "baa", "bbb", true}, {"2 ba>ab", "aba", "abb", true}, {"2 ba>ab", "bba", "bbb", true}, {"2 ba>ab", "abaaaa", "abbbbb", true},
		{"2 aa>.", "aa", "ab", true}, {"2 aa>.", "aaaa", "abab", true}, {"2 aa>.", "baab", "baba", true}, {"2 bb>.", "bb", "aaa", true}, {"2 bb>.", "abb", "baa", true},
		{"2 bb>a", "bbaa", "aaaaa", true}, {"2 a>.", "a", "b", true}, {"2 a>.", "ab", "bb", true}, {"2 a>.", "ba", "bb", true}, {"2 b>.", "b", "aa", true}, {"2 b>.", "ab", "aaa", true},
		// The next word has a letter more, although some words of this length begin in the same way.
		{"3 aa>. ab>. ac>. bb>. ba>. bc>. cccc>.", "cb", "cc", true}, {"3 aa>. ab>. ac>. bb>. ba>. bc>. cccc>.", "cc", "cca", true}, {"3 aa>. ab>. ac>. bb>. ba>. bc>. cccc>.", "ccb", "ccc", true}, {"3 aa>. ab>. ac>. bb>. ba>. bc>. cccc>.", "ccc", "ccca", true},
		{"3 aa>. ab>. ac>. bb>. ba>. bc>. cccc>.", "cccb", "", false}, {"3 aa>. ab>. ac>. bb>. ba>. bc>. cccc>.", "aaa", "cca", true}, {"3 aa>. ab>. ac>. bb>. ba>. bc>. cccc>.", "cccc", "", false},
		// The last word of all, and longer ones than there are.
		{"1 aaa>.", "aa", "", false}, {"1 aaa>.", "aaa", "", false}, {"1 aaa>.", full("a"), "", false}, {"1 aaa>.", "a", "aa", true}, {"1 a>.", "a", "", false}, {"1 a>.", "aaa", "", false},
		{"2 aa>. bb>. bab>aba", "aba", "", false}, {"2 aa>. bb>. bab>aba", "ba", "aba", true}, {"2 aa>. bb>. bab>aba", "aab", "aba", true}, {"2 aa>. bb>. bab>aba", "bbb", "", false},
		// MaxWord letters: there is no length behind this one.
		{"1", full("a")[:15], full("a"), true}, {"1", full("a"), "", false}, {"2", full("b")[:15], full("a"), true}, {"2", full("b"), "", false}, {"2", full("a"), full("a")[:15] + "b", true},
		{"4", full("d"), "", false}, {"4", full("d")[:15] + "c", full("d"), true}, {"4", "abcd" + full("d")[:12], "abda" + full("a")[:12], true},
		{"2 ba>ab", full("ba"), full("b"), true}, {"2 ba>ab", full("a"), full("a")[:15] + "b", true}, {"2 ba>ab", full("b"), "", false}, {"2 ba>ab", full("b")[:15] + "a", full("b"), true},
		{"2 aa>.", full("ba"), full("ba")[:14] + "bb", true}, {"2 bb>.", full("ba"), "", false}, {"2 bb>.", full("b"), "", false}, {"2 bb>.", full("ab"), "b" + full("a")[:15], true},
		// A reduced word of 17 letters is not met, although there is one.
		{"3 aaaaaaaa>. bbbbbbbb>. cccc>. ba>ab ca>ac cb>bc", "aaaaaaabbbbbbbc", "aaaaaaabbbbbbcc", true}, {"3 aaaaaaaa>. bbbbbbbb>. cccc>. ba>ab ca>ac cb>bc", "aaaaaabbbbbbccc", "aaaaabbbbbbbccc", true},
		{"3 aaaaaaaa>. bbbbbbbb>. cccc>. ba>ab ca>ac cb>bc", "aaaaabbbbbbbccc", "aaaaaaabbbbbbbcc", true}, {"3 aaaaaaaa>. bbbbbbbb>. cccc>. ba>ab ca>ac cb>bc", "aaaaaaabbbbbbbcc", "aaaaaaabbbbbbccc", true},
		{"3 aaaaaaaa>. bbbbbbbb>. cccc>. ba>ab ca>ac cb>bc", "aaaaaaabbbbbbccc", "aaaaaabbbbbbbccc", true}, {"3 aaaaaaaa>. bbbbbbbb>. cccc>. ba>ab ca>ac cb>bc", "aaaaaabbbbbbbccc", "", false},
	}
	for _, c := range cases {
		s := ordered(t, c.system)
		checkNext(t, s, c.w, c.want, c.ok)
		checkNextByCounts(t, oracleOf(s), c.w)
	}
	for k := 1; k <= 4; k++ {
		for _, s := range []impl.System{systemOf(k), systemOf(k, ruleOf("a", "")), systemOf(k, ruleOf("aa", "a"))} {
			for _, w := range append(oddTexts(), full("a")+"a", "abcde"[k:k+1], "a"+"abcde"[k:k+1], strings.Repeat("a", 400)) {
				checkNext(t, s, w, "", false)
			}
			for b := range 256 {
				w := "a" + string([]byte{byte(b)})
				_, ok := impl.NextReduced(s, w)
				if isWord := 'a' <= b && b < 'a'+k; ok && !isWord || !ok && isWord && s.Rules == nil {
					t.Errorf("NextReduced(%#v, %q) is %v", s, w, ok)
				}
			}
		}
	}
}

// TestLanguagesOfSmallSystems holds all functions against lists, for all ordered systems of at most two short rules.
func TestLanguagesOfSmallSystems(t *testing.T) {
	finite := 0
	orderedSmallSystems(func(s impl.System) {
		checkCounts(t, s, 5)
		checkAll(t, s)
		if impl.LongestReduced(s) >= 0 {
			finite++
		}
		checkWalk(t, s, 4)
		textsOf("ab", 4, func(w string) {
			want, ok := nextFree(s, w)
			checkNext(t, s, w, want, ok)
		})
	})
	if finite < 20 {
		t.Errorf("only %d systems have finitely many words", finite)
	}
}

// TestLanguagesOfLongSystems takes more letters, long sides and words of up to MaxWord letters.
func TestLanguagesOfLongSystems(t *testing.T) {
	for _, s := range longSystems(t) {
		checkCounts(t, s, 6)
		checkWalk(t, s, 4)
		o := oracleOf(s)
		for _, w := range wordsWith(s, 3) {
			checkNextByCounts(t, o, w)
		}
	}
	for _, text := range []string{"1 aaaaaaaa>a", "2 aa>. bb>. bab>aba", "2 ba>ab", "3 ba>ab ca>ac cb>bc", "4 b>a c>a d>a", "2 ab>. ba>.", "3 aaaaaaaa>. bbbbbbbb>. cccc>. ba>ab ca>ac cb>bc"} {
		checkCounts(t, ordered(t, text), 16)
		checkWalk(t, ordered(t, text), 16)
	}
}

// finiteSystem has a Left for the power of each letter, and others, drawn with a side of at most n letters.
func finiteSystem(r *rand.Rand, k, n int) impl.System {
	s := systemOf(k)
	for i := range k {
		s.Rules = append(s.Rules, ruleOf(strings.Repeat("abcd"[i:i+1], 1+r.Intn(n)), ""))
	}
	for range r.Intn(13 - k) {
		s.Rules = append(s.Rules, ruleOf(drawnWord(r, k, n/2-1)+"abcd"[k-1:k]+"a"+drawnWord(r, k, n/2-1), ""))
	}
	return s
}

// TestLanguagesOfDrawnSystems draws the same systems each time.
func TestLanguagesOfDrawnSystems(t *testing.T) {
	r := rand.New(rand.NewSource(8))
	finite, beyond := 0, 0
	for i := range 1500 {
		k := 1 + r.Intn(4)
		// With many letters, the oracle knows only short Lefts soon enough.
		n := []int{8, 8, 5, 4}[k-1]
		s := drawnSystem(r, k, 12, 1+r.Intn(n-2))
		if i%2 == 0 {
			s = finiteSystem(r, k, n)
		}
		checkAll(t, s)
		if longest := impl.LongestReduced(s); longest >= 0 {
			finite++
			if longest > 8 {
				beyond++
			}
		}
		checkCounts(t, s, 4)
		o := oracleOf(s)
		for range 8 {
			checkNextByCounts(t, o, drawnWord(r, k, 16))
		}
	}
	if finite < 400 || beyond < 20 {
		t.Errorf("%d systems have finitely many words, %d of them long ones", finite, beyond)
	}
}

// TestReducedWordsHaveNoStep holds P3 against the reduction of chapter 5: the counted and listed words are those that IsReduced says.
func TestReducedWordsHaveNoStep(t *testing.T) {
	for _, s := range longSystems(t) {
		var want []string
		textsOf("abcd"[:s.Letters], 4, func(w string) {
			if impl.IsReduced(s, w) {
				want = append(want, w)
			}
		})
		sum := 0
		for _, n := range impl.GrowthOf(s, 4) {
			sum += n
		}
		var walked []string
		for w, ok := "", true; ok && len(w) <= 4 && len(walked) <= len(want); w, ok = impl.NextReduced(s, w) {
			walked = append(walked, w)
		}
		if sum != len(want) || !slices.Equal(walked, want) {
			t.Errorf("%#v has %d reduced words, and the walk meets %q, want %q", s, sum, walked, want)
		}
		list, ok := impl.AllReduced(s)
		for _, w := range list {
			if form, _ := impl.NormalForm(s, w); form != w || !ok {
				t.Errorf("AllReduced(%#v) has %q, which becomes %q", s, w, form)
			}
		}
	}
}

// callLanguages calls every function of chapter 8.
func callLanguages(s impl.System, w string) {
	for _, n := range []int{-1, 0, 3, 16, 17} {
		impl.CountReduced(s, n)
		impl.ReducedWords(s, n)
		impl.GrowthOf(s, n)
	}
	impl.LongestReduced(s)
	impl.CountAll(s)
	impl.AllReduced(s)
	impl.NextReduced(s, w)
}

// TestLanguageArgumentsAreKept holds chapter 1 against the functions of chapter 8.
func TestLanguageArgumentsAreKept(t *testing.T) {
	systems := append(longSystems(t), someSystems()...)
	for _, s := range append(systems, unorderedSystems()...) {
		rules, all := spared(s.Rules)
		before := slices.Clone(all)
		for _, w := range []string{"", "ba", "bbaab", "dcba", "ÿba", strings.Repeat("ba", 9)} {
			callLanguages(impl.System{Letters: s.Letters, Rules: rules}, w)
		}
		if !slices.Equal(all, before) {
			t.Errorf("the rules of %#v became %q", s, all)
		}
	}
}

// TestLanguageResultsAreNew changes the results, also behind their ends, and asks again.
func TestLanguageResultsAreNew(t *testing.T) {
	s := ordered(t, "2 aa>. bb>. bab>aba")
	ask := map[string]func() ([]string, bool){
		"ReducedWords": func() ([]string, bool) { return impl.ReducedWords(s, 2) },
		"AllReduced":   func() ([]string, bool) { return impl.AllReduced(s) },
	}
	for name, words := range ask {
		list, _ := words()
		other, _ := words()
		want := slices.Clone(list)
		if len(want) < 2 {
			t.Fatalf("%s is %q", name, want)
		}
		for i := range list[:cap(list)] {
			list[:cap(list)][i] = "?"
		}
		if again, ok := words(); !slices.Equal(other, want) || !slices.Equal(again, want) || !ok {
			t.Errorf("a change of %s changed another result", name)
		}
	}
	list, other := impl.GrowthOf(s, 4), impl.GrowthOf(s, 4)
	for i := range list[:cap(list)] {
		list[:cap(list)][i] = -9
	}
	if want := []int{1, 2, 2, 1, 0}; !slices.Equal(other, want) || !slices.Equal(impl.GrowthOf(s, 4), want) {
		t.Errorf("a change of GrowthOf changed another result")
	}
	if got := impl.FormatSystem(s); got != "2 aa>. bb>. bab>aba" {
		t.Errorf("the system became %q", got)
	}
}

// TestLanguagesAreTheSameEachTime asks several times at once, and with other systems in between.
func TestLanguagesAreTheSameEachTime(t *testing.T) {
	systems := longSystems(t)
	var wait sync.WaitGroup
	for range 8 {
		wait.Go(func() {
			for range 5 {
				for _, s := range systems {
					lists := freeWords(s, 3)
					list, _ := impl.ReducedWords(s, 3)
					next, _ := impl.NextReduced(s, "")
					if !slices.Equal(list, lists[3]) || impl.GrowthOf(s, 3)[2] != len(lists[2]) || impl.LongestReduced(s) != oracleOf(s).longest() {
						t.Errorf("%#v has the words %q, want %q", s, list, lists[3])
					}
					if len(lists[1]) > 0 && next != lists[1][0] {
						t.Errorf("NextReduced(%#v) of the empty word is %q", s, next)
					}
				}
			}
		})
	}
	wait.Wait()
}
