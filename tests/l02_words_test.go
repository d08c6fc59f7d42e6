package tests

import (
	"math"
	"slices"
	"strings"
	"testing"

	"loop.example/g03201/impl"
)

// oddTexts are strings that are no words with MaxLetters letters.
func oddTexts() []string {
	return []string{
		"e", "z", "A", "`", "0", ".", " ", "\n", "\x00", "\x7f", "\x80", "\xe1", "\xff", "é", "ab\xffc", "\u20ac\u20ac",
		"aé", "éa", "a b", "abe", "eab", strings.Repeat("a", 17), strings.Repeat("\xfe", 17), strings.Repeat("abcd", 100),
	}
}

// pairsOfTexts calls f with all pairs of strings of at most n bytes of the alphabet, and of the odd ones.
func pairsOfTexts(alphabet string, n int, f func(u, v string)) {
	list := oddTexts()
	textsOf(alphabet, n, func(s string) { list = append(list, s) })
	for _, u := range list {
		for _, v := range list {
			f(u, v)
		}
	}
}

func TestWordConstants(t *testing.T) {
	if impl.MaxLetters != 4 || impl.MaxWord != 16 {
		t.Errorf("MaxLetters = %d and MaxWord = %d, want 4 and 16", impl.MaxLetters, impl.MaxWord)
	}
}

func TestWordOk(t *testing.T) {
	cases := []struct {
		k    int
		w    string
		want bool
	}{
		{1, "", true},
		{4, "", true},
		{0, "", false},
		{5, "", false},
		{-1, "", false},
		{math.MinInt, "", false},
		{math.MaxInt, "", false},
		{256, "", false},
		{257, "a", false},
		{0, "a", false},
		{5, "a", false},
		{5, "e", false},
		{-1, "a", false},
		{math.MaxInt, "a", false},
		{1, "a", true},
		{1, "b", false},
		{2, "ab", true},
		{2, "abc", false},
		{3, "cab", true},
		{3, "abcd", false},
		{4, "abcd", true},
		{4, "abcde", false},
		{4, "eabcd", false},
		{2, "cab", false},
		{2, "acb", false},
		{1, strings.Repeat("a", 16), true},
		{1, strings.Repeat("a", 17), false},
		{4, strings.Repeat("abcd", 4), true},
		{4, strings.Repeat("abcd", 4) + "a", false},
		{4, strings.Repeat("d", 15) + "e", false},
		{4, strings.Repeat("a", 5000), false},
	}
	for _, c := range cases {
		if got := impl.WordOk(c.k, c.w); got != c.want {
			t.Errorf("WordOk(%d, %q) = %v", c.k, c.w, got)
		}
	}
	for _, w := range oddTexts() {
		for k := -1; k <= 6; k++ {
			if impl.WordOk(k, w) {
				t.Errorf("WordOk(%d, %q) = true", k, w)
			}
		}
	}
}

func TestWordOkWithEachByte(t *testing.T) {
	for k := 0; k <= 5; k++ {
		for b := 0; b < 256; b++ {
			want := 1 <= k && k <= 4 && 'a' <= b && b < 'a'+k
			one := string([]byte{byte(b)})
			if impl.WordOk(k, one) != want {
				t.Errorf("WordOk(%d, %q) = %v", k, one, !want)
			}
			if impl.WordOk(k, "a"+one) != want || impl.WordOk(k, one+"a") != want || impl.WordOk(k, "a"+one+"a") != want {
				t.Errorf("WordOk(%d) with %q beside a: want %v", k, one, want)
			}
		}
	}
}

func TestIsLess(t *testing.T) {
	cases := []struct{ less, greater string }{
		{"", "a"},
		{"a", "b"},
		{"b", "aa"},
		{"d", "aa"},
		{"ab", "ba"},
		{"aab", "aba"},
		{"aaab", "aaba"},
		{"bbbb", "aaaaa"},
		{"\xff", "aa"},
		{"a", "\x80"},
		{"\x7f", "\x80"},
		{"a\x7f", "a\xff"},
		{"A", "a"},
		{"\x00", "a"},
		{"\x00", "\x00\x00"},
		{"zz", "é"},
		{"é", "aaa"},
		{"\xff\xff", "\x00\x00\x00"},
		{strings.Repeat("a", 16), strings.Repeat("a", 17)},
		{strings.Repeat("b", 16), strings.Repeat("a", 17)},
		{strings.Repeat("a", 300), strings.Repeat("a", 299) + "b"},
	}
	for _, c := range cases {
		if !impl.IsLess(c.less, c.greater) {
			t.Errorf("IsLess(%q, %q) = false", c.less, c.greater)
		}
		if impl.IsLess(c.greater, c.less) {
			t.Errorf("IsLess(%q, %q) = true", c.greater, c.less)
		}
		if impl.IsLess(c.less, c.less) || impl.IsLess(c.greater, c.greater) {
			t.Errorf("IsLess of %q or %q and itself = true", c.less, c.greater)
		}
	}
}

// lessByBytes compares without the order of strings.
func lessByBytes(u, v string) bool {
	if len(u) != len(v) {
		return len(u) < len(v)
	}
	for i := 0; i < len(u); i++ {
		if u[i] != v[i] {
			return u[i] < v[i]
		}
	}
	return false
}

func TestOrderOfWords(t *testing.T) {
	pairsOfTexts("abd\xff", 3, func(u, v string) {
		if got, want := impl.IsLess(u, v), lessByBytes(u, v); got != want {
			t.Errorf("IsLess(%q, %q) = %v", u, v, got)
		}
		// The order is total, and nothing between u and v changes it.
		if u != v && impl.IsLess(u, v) == impl.IsLess(v, u) {
			t.Errorf("%q and %q have no order", u, v)
		}
		if impl.IsLess(u, v) && (!impl.IsLess("a"+u, "a"+v) || !impl.IsLess(u+"b", v+"b")) {
			t.Errorf("the order of %q and %q does not stay with a letter more", u, v)
		}
	})
}

func TestCountLetter(t *testing.T) {
	cases := []struct {
		w      string
		letter int
		want   int
	}{
		{"", 0, 0},
		{"", 3, 0},
		{"a", 0, 1},
		{"abab", 0, 2},
		{"abab", 1, 2},
		{"abab", 2, 0},
		{"abcd", 3, 1},
		{"dddd", 3, 4},
		{"dada", 3, 2},
		{"eeee", 4, 0},
		{"abcde", 4, 0},
		{"a", 4, 0},
		{"a", -1, 0},
		{"`", -1, 0},
		{"a", 256, 0},
		{"a", -256, 0},
		{"a", 97, 0},
		{"a", math.MaxInt, 0},
		{"a", math.MinInt, 0},
		{"AaAa", 0, 2},
		{"\xe1a\xff", 0, 1},
		{"éaé", 0, 1},
		{"\u0101\u0161", 0, 0},
		{"z a\n\x00b", 1, 1},
		{strings.Repeat("a", 16), 0, 16},
		{strings.Repeat("ab", 300) + "a", 0, 301},
		{strings.Repeat("ab", 300) + "a", 1, 300},
	}
	for _, c := range cases {
		if got := impl.CountLetter(c.w, c.letter); got != c.want {
			t.Errorf("CountLetter(%q, %d) = %d, want %d", c.w, c.letter, got, c.want)
		}
	}
	textsOf("abcde\xe1", 4, func(w string) {
		for x := -2; x <= 6; x++ {
			want := 0
			if 0 <= x && x <= 3 {
				want = strings.Count(w, "abcd"[x:x+1])
			}
			if got := impl.CountLetter(w, x); got != want {
				t.Fatalf("CountLetter(%q, %d) = %d, want %d", w, x, got, want)
			}
		}
	})
}

func TestPlacesOf(t *testing.T) {
	cases := []struct {
		w, part string
		want    []int
	}{
		{"", "", nil},
		{"a", "", nil},
		{"abc", "", nil},
		{"", "a", nil},
		{"a", "a", []int{0}},
		{"a", "b", nil},
		{"a", "aa", nil},
		{"ab", "abc", nil},
		{"ab", "ab", []int{0}},
		{"abc", "bc", []int{1}},
		{"abc", "c", []int{2}},
		{"abab", "ab", []int{0, 2}},
		{"ababa", "aba", []int{0, 2}},
		{"aaaa", "a", []int{0, 1, 2, 3}},
		{"aaaa", "aa", []int{0, 1, 2}},
		{"aaaa", "aaaa", []int{0}},
		{"abaababa", "aba", []int{0, 3, 5}},
		{"abcabd", "abd", []int{3}},
		{"éé", "\xa9", []int{1, 3}},
		{"éé", "\xa9\xc3", []int{1}},
		{"é", "\ufffd", nil},
		{"\xff\xff\xff", "\xff\xff", []int{0, 1}},
		{"\xff", "\xfe", nil},
		{"\x00a\x00", "\x00", []int{0, 2}},
		{strings.Repeat("a", 17), "aaaaaaaaaaaaaaaa", []int{0, 1}},
		{strings.Repeat("b", 400) + "ab", "ab", []int{400}},
	}
	for _, c := range cases {
		if got := impl.PlacesOf(c.w, c.part); !slices.Equal(got, c.want) {
			t.Errorf("PlacesOf(%q, %q) = %v, want %v", c.w, c.part, got, c.want)
		}
	}
}

func TestPlacesAreThoseOfTheirParts(t *testing.T) {
	pairsOfTexts("ab\xff", 4, func(w, part string) {
		got := impl.PlacesOf(w, part)
		var want []int
		for i := 0; i < len(w) && part != ""; i++ {
			if strings.HasPrefix(w[i:], part) {
				want = append(want, i)
			}
		}
		if !slices.Equal(got, want) {
			t.Fatalf("PlacesOf(%q, %q) = %v, want %v", w, part, got, want)
		}
		for _, place := range got {
			same, ok := impl.ReplaceAt(w, place, len(part), part)
			if len(w) <= 16 && (same != w || !ok) {
				t.Fatalf("ReplaceAt(%q, %d, %d, %q) = %q, %v", w, place, len(part), part, same, ok)
			}
		}
	})
}

func TestReplaceAt(t *testing.T) {
	full := strings.Repeat("a", 16)
	long := strings.Repeat("a", 400)
	cases := []struct {
		w             string
		place, length int
		by            string
		want          string
		ok            bool
	}{
		{"abc", 1, 1, "xx", "axxc", true},
		{"abc", 0, 1, "", "bc", true},
		{"abc", 2, 1, "", "ab", true},
		{"abc", 0, 3, "", "", true},
		{"abc", 0, 3, "d", "d", true},
		{"abc", 0, 0, "d", "dabc", true},
		{"abc", 1, 0, "d", "adbc", true},
		{"abc", 3, 0, "d", "abcd", true},
		{"abc", 3, 0, "", "abc", true},
		{"abc", 3, 1, "", "", false},
		{"abc", 4, 0, "d", "", false},
		{"abc", 4, 0, "", "", false},
		{"abc", 2, 2, "", "", false},
		{"abc", 0, 4, "", "", false},
		{"abc", -1, 1, "", "", false},
		{"abc", -1, 0, "", "", false},
		{"abc", -1, 2, "", "", false},
		{"abc", 1, -1, "", "", false},
		{"abc", 3, -1, "", "", false},
		{"abc", 4, -1, "", "", false},
		{"abc", -1, -1, "", "", false},
		{"abc", 0, -1, "", "", false},
		{"", 0, 0, "", "", true},
		{"", 0, 0, "ab", "ab", true},
		{"", 0, 1, "ab", "", false},
		{"", 1, 0, "ab", "", false},
		{"", 1, -1, "ab", "", false},
		{"abc", math.MaxInt, 0, "", "", false},
		{"abc", 0, math.MaxInt, "", "", false},
		{"abc", 1, math.MaxInt, "", "", false},
		{"abc", 3, math.MaxInt - 2, "", "", false},
		{"abc", math.MaxInt, 1, "", "", false},
		{"abc", math.MaxInt, math.MaxInt, "", "", false},
		{"abc", math.MinInt, 0, "", "", false},
		{"abc", 0, math.MinInt, "", "", false},
		{"abc", math.MinInt, math.MinInt, "", "", false},
		{"abc", math.MinInt, math.MaxInt, "", "", false},
		{"abc", math.MaxInt, math.MinInt, "", "", false},
		{full, 0, 0, "", full, true},
		{full, 16, 0, "", full, true},
		{full, 0, 0, "b", "", false},
		{full, 16, 0, "b", "", false},
		{full, 15, 1, "b", full[:15] + "b", true},
		{full, 15, 1, "bb", "", false},
		{full, 15, 2, "", "", false},
		{full, 17, 0, "", "", false},
		{full[:15], 7, 0, "b", full[:7] + "b" + full[:8], true},
		{full[:15], 7, 0, "bb", "", false},
		{"", 0, 0, full, full, true},
		{"", 0, 0, full + "a", "", false},
		{"b", 0, 1, full, full, true},
		{"b", 0, 1, full + "a", "", false},
		{full + "b", 16, 1, "", full, true},
		{full + "b", 0, 0, "", "", false},
		{full + "b", 15, 1, "c", "", false},
		{full + "b", 15, 2, "c", full[:15] + "c", true},
		{long, 1, 398, "b", "aba", true},
		{long, 0, 400, "", "", true},
		{long, 0, 384, "", full, true},
		{long, 0, 383, "", "", false},
		{"a", 0, 1, long, "", false},
		{"éa", 1, 1, "\xaa", "êa", true},
		{"éa", 0, 1, "", "\xa9a", true},
		{"\xff", 1, 0, "\x00", "\xff\x00", true},
		{"XYZ", 1, 1, "é", "XéZ", true},
	}
	for _, c := range cases {
		if got, ok := impl.ReplaceAt(c.w, c.place, c.length, c.by); got != c.want || ok != c.ok {
			t.Errorf("ReplaceAt(%q, %d, %d, %q) = %q, %v, want %q, %v", c.w, c.place, c.length, c.by, got, ok, c.want, c.ok)
		}
	}
}

func TestReplacedPartsAreAtTheirPlace(t *testing.T) {
	pairsOfTexts("abc", 3, func(w, by string) {
		for place := -2; place <= len(w)+2; place++ {
			for length := -2; length <= len(w)+2; length++ {
				got, ok := impl.ReplaceAt(w, place, length, by)
				exist := place >= 0 && length >= 0 && place+length <= len(w)
				if want := exist && len(w)-length+len(by) <= 16; ok != want || !ok && got != "" {
					t.Fatalf("ReplaceAt(%q, %d, %d, %q) = %q, %v", w, place, length, by, got, ok)
				}
				if ok && (got[:place] != w[:place] || got[place:place+len(by)] != by || got[place+len(by):] != w[place+length:]) {
					t.Fatalf("ReplaceAt(%q, %d, %d, %q) = %q", w, place, length, by, got)
				}
				if len(w) > 16 || !ok {
					continue
				}
				if back, ok := impl.ReplaceAt(got, place, len(by), w[place:place+length]); back != w || !ok {
					t.Fatalf("%q is not recovered from %q, but %q, %v", w, got, back, ok)
				}
			}
		}
	})
}

func TestOverlapsOf(t *testing.T) {
	cases := []struct {
		u, v string
		want []int
	}{
		{"", "", nil},
		{"a", "", nil},
		{"", "a", nil},
		{"a", "a", nil},
		{"a", "aa", nil},
		{"aa", "a", nil},
		{"aa", "aa", []int{1}},
		{"ab", "ab", nil},
		{"ab", "ba", []int{1}},
		{"ab", "bab", []int{1}},
		{"bab", "ab", nil},
		{"aba", "bab", []int{2}},
		{"aba", "aba", []int{1}},
		{"ababa", "ababa", []int{1, 3}},
		{"ababa", "aba", []int{1}},
		{"aba", "ababa", []int{1}},
		{"bababa", "ababab", []int{1, 3, 5}},
		{"aaaa", "aaaa", []int{1, 2, 3}},
		{"aaaa", "aaa", []int{1, 2}},
		{"aaa", "aaaa", []int{1, 2}},
		{"ca", "aac", []int{1}},
		{"caa", "aac", []int{1, 2}},
		{"aab", "aab", nil},
		{"baa", "baa", nil},
		{"aaab", "baaa", []int{1}},
		{"é", "\xa9", nil},
		{"é", "\xa9a", []int{1}},
		{"\xff\xfe", "\xfe\xff", []int{1}},
		{strings.Repeat("a", 18), strings.Repeat("a", 17), []int{1, 2, 3, 4, 5, 6, 7, 8, 9, 10, 11, 12, 13, 14, 15, 16}},
	}
	for _, c := range cases {
		if got := impl.OverlapsOf(c.u, c.v); !slices.Equal(got, c.want) {
			t.Errorf("OverlapsOf(%q, %q) = %v, want %v", c.u, c.v, got, c.want)
		}
	}
}

func TestOverlapsAreEndsAndBeginnings(t *testing.T) {
	pairsOfTexts("ab\xff", 4, func(u, v string) {
		got := impl.OverlapsOf(u, v)
		var want []int
		for n := 1; n < len(u) && n < len(v); n++ {
			if strings.HasSuffix(u, v[:n]) {
				want = append(want, n)
			}
		}
		if !slices.Equal(got, want) {
			t.Fatalf("OverlapsOf(%q, %q) = %v, want %v", u, v, got, want)
		}
		if back := impl.OverlapsOf(impl.MirrorWord(v), impl.MirrorWord(u)); !slices.Equal(got, back) {
			t.Fatalf("OverlapsOf(%q, %q) = %v, but of the mirrored words %v", u, v, got, back)
		}
		for _, n := range got {
			joined := u + v[n:]
			if at := impl.PlacesOf(joined, v); !slices.Contains(at, len(u)-n) {
				t.Fatalf("%q is not at the place %d of %q", v, len(u)-n, joined)
			}
		}
	})
}

func TestMirrorWord(t *testing.T) {
	cases := []struct{ w, want string }{
		{"", ""},
		{"a", "a"},
		{"ab", "ba"},
		{"abc", "cba"},
		{"abca", "acba"},
		{"aabb", "bbaa"},
		{"é", "\xa9\xc3"},
		{"a\xffb\x00", "\x00b\xffa"},
		{"\u20ac", "\xac\x82\xe2"},
		{strings.Repeat("ab", 200), strings.Repeat("ba", 200)},
	}
	for _, c := range cases {
		if got := impl.MirrorWord(c.w); got != c.want {
			t.Errorf("MirrorWord(%q) = %q, want %q", c.w, got, c.want)
		}
	}
	pairsOfTexts("ab\xff", 3, func(u, v string) {
		if got := impl.MirrorWord(impl.MirrorWord(u)); got != u {
			t.Errorf("MirrorWord twice of %q = %q", u, got)
		}
		if got := impl.MirrorWord(u + v); got != impl.MirrorWord(v)+impl.MirrorWord(u) {
			t.Errorf("MirrorWord(%q) = %q", u+v, got)
		}
	})
}

func TestPowerWord(t *testing.T) {
	full := strings.Repeat("a", 16)
	cases := []struct {
		w    string
		n    int
		want string
		ok   bool
	}{
		{"ab", 0, "", true},
		{"ab", 1, "ab", true},
		{"ab", 2, "abab", true},
		{"ab", -1, "", false},
		{"ab", math.MinInt, "", false},
		{"ab", 8, strings.Repeat("ab", 8), true},
		{"ab", 9, "", false},
		{"abc", 5, "abcabcabcabcabc", true},
		{"abc", 6, "", false},
		{"a", 16, full, true},
		{"a", 17, "", false},
		{"aaaaaaaa", 2, full, true},
		{"aaaaaaaaa", 2, "", false},
		{full, 1, full, true},
		{full, 2, "", false},
		{full, 0, "", true},
		{full + "a", 1, "", false},
		{full + "a", 2, "", false},
		{full + "a", 0, "", true},
		{full + "a", -1, "", false},
		{"a", math.MaxInt, "", false},
		{"ab", math.MaxInt, "", false},
		{"ab", math.MaxInt/2 + 1, "", false},
		{"abcd", 1 << 62, "", false},
		{full, 1 << 60, "", false},
		{strings.Repeat("a", 256), 1 << 56, "", false},
		{"", 0, "", true},
		{"", 1, "", true},
		{"", 17, "", true},
		{"", math.MaxInt, "", true},
		{"", -1, "", false},
		{"", math.MinInt, "", false},
		{"\xff", 3, "\xff\xff\xff", true},
		{"é", 8, strings.Repeat("é", 8), true},
		{"é", 9, "", false},
		{"e \x00", 2, "e \x00e \x00", true},
	}
	for _, c := range cases {
		if got, ok := impl.PowerWord(c.w, c.n); got != c.want || ok != c.ok {
			t.Errorf("PowerWord(%q, %d) = %q, %v, want %q, %v", c.w, c.n, got, ok, c.want, c.ok)
		}
	}
}

func TestRootOf(t *testing.T) {
	full := strings.Repeat("a", 16)
	cases := []struct {
		w, root string
		n       int
	}{
		{"", "", 0},
		{"a", "a", 1},
		{"aa", "a", 2},
		{"aaa", "a", 3},
		{"ab", "ab", 1},
		{"aba", "aba", 1},
		{"abab", "ab", 2},
		{"ababa", "ababa", 1},
		{"ababab", "ab", 3},
		{"aabaab", "aab", 2},
		{"abaaba", "aba", 2},
		{"abcabd", "abcabd", 1},
		{"aabb", "aabb", 1},
		{full, "a", 16},
		{strings.Repeat("ab", 8), "ab", 8},
		{strings.Repeat("aabb", 4), "aabb", 4},
		{strings.Repeat("aaab", 3) + "aaaa", strings.Repeat("aaab", 3) + "aaaa", 1},
		{strings.Repeat("aaaaaaab", 2), "aaaaaaab", 2},
		{strings.Repeat("a", 15) + "b", strings.Repeat("a", 15) + "b", 1},
		{full + "a", "", 0},
		{strings.Repeat("ab", 9), "", 0},
		{strings.Repeat("a", 1000), "", 0},
		{"\xff\xff", "\xff", 2},
		{"éé", "é", 2},
		{"\xc3\xc3\xa9\xa9", "\xc3\xc3\xa9\xa9", 1},
		{"z z ", "z ", 2},
		{"\x00", "\x00", 1},
	}
	for _, c := range cases {
		if root, n := impl.RootOf(c.w); root != c.root || n != c.n {
			t.Errorf("RootOf(%q) = %q, %d, want %q, %d", c.w, root, n, c.root, c.n)
		}
	}
}

func TestPowersAndRootsBelongTogether(t *testing.T) {
	check := func(w string) {
		for n := -1; n <= 17; n++ {
			power, ok := impl.PowerWord(w, n)
			if want := n >= 0 && len(w)*n <= 16; ok != want || ok && power != strings.Repeat(w, n) || !ok && power != "" {
				t.Fatalf("PowerWord(%q, %d) = %q, %v", w, n, power, ok)
			}
			root, times := impl.RootOf(w)
			if again, many := impl.RootOf(power); ok && power != "" && (again != root || many != times*n) {
				t.Fatalf("RootOf(%q) = %q, %d, but that of %q is %q, %d", power, again, many, w, root, times)
			}
		}
		root, n := impl.RootOf(w)
		if back, ok := impl.PowerWord(root, n); (back != w || !ok) && len(w) <= 16 {
			t.Fatalf("RootOf(%q) = %q, %d, whose power is %q", w, root, n, back)
		}
		for i := 1; i < len(root); i++ {
			if strings.Repeat(w[:i], len(w)/i) == w {
				t.Fatalf("RootOf(%q) = %q, but %q is shorter", w, root, w[:i])
			}
		}
	}
	textsOf("ab\xff", 7, check)
	for _, w := range oddTexts() {
		check(w)
	}
}

func TestWordsOf(t *testing.T) {
	cases := []struct {
		k, n int
		want []string
	}{
		{1, 0, []string{""}},
		{4, 0, []string{""}},
		{1, 1, []string{"a"}},
		{1, 3, []string{"aaa"}},
		{2, 1, []string{"a", "b"}},
		{2, 2, []string{"aa", "ab", "ba", "bb"}},
		{3, 1, []string{"a", "b", "c"}},
		{3, 2, []string{"aa", "ab", "ac", "ba", "bb", "bc", "ca", "cb", "cc"}},
		{4, 1, []string{"a", "b", "c", "d"}},
		{1, 16, []string{strings.Repeat("a", 16)}},
		{1, 17, []string{strings.Repeat("a", 17)}},
		{1, 256, []string{strings.Repeat("a", 256)}},
	}
	for _, c := range cases {
		if got, ok := impl.WordsOf(c.k, c.n); !slices.Equal(got, c.want) || !ok {
			t.Errorf("WordsOf(%d, %d) = %q, %v, want %q", c.k, c.n, got, ok, c.want)
		}
	}
	no := []struct{ k, n int }{
		{0, 0}, {0, 1}, {5, 0}, {5, 1}, {-1, 0}, {-1, 2}, {math.MinInt, 1}, {math.MaxInt, 0}, {257, 0},
		{1, -1}, {2, -1}, {4, math.MinInt}, {1, 257}, {1, 1000}, {1, math.MaxInt}, {2, 257}, {4, math.MaxInt},
		{2, 9}, {2, 16}, {2, 17}, {2, 62}, {2, 63}, {2, 64}, {2, 256}, {3, 6}, {3, 41}, {3, 256}, {4, 5}, {4, 32}, {4, 256},
	}
	for _, c := range no {
		if got, ok := impl.WordsOf(c.k, c.n); len(got) != 0 || ok {
			t.Errorf("WordsOf(%d, %d) = %q, %v, want false", c.k, c.n, got, ok)
		}
	}
}

func TestListedWordsAreAllInOrder(t *testing.T) {
	for k := 1; k <= 4; k++ {
		for n, count := 0, 1; n <= 16; n, count = n+1, count*k {
			list, ok := impl.WordsOf(k, n)
			if want := count <= 256; ok != want || ok && len(list) != count || !ok && len(list) != 0 {
				t.Fatalf("WordsOf(%d, %d) has %d words and %v, want %d", k, n, len(list), ok, count)
			}
			for i, w := range list {
				if !impl.WordOk(k, w) || len(w) != n {
					t.Errorf("WordsOf(%d, %d) has %q", k, n, w)
				}
				if i > 0 && (!impl.IsLess(list[i-1], w) || list[i-1] >= w) {
					t.Errorf("WordsOf(%d, %d) has %q before %q", k, n, list[i-1], w)
				}
				letters := 0
				for x := 0; x < k; x++ {
					letters += impl.CountLetter(w, x)
				}
				if letters != n {
					t.Errorf("the letters of %q are counted as %d", w, letters)
				}
			}
		}
	}
}

// TestWordResultsAreNew holds chapter 1 against the functions of chapter 3 that return a slice.
func TestWordResultsAreNew(t *testing.T) {
	for _, list := range []func() []int{
		func() []int { return impl.PlacesOf("ababa", "aba") },
		func() []int { return impl.OverlapsOf("aaa", "aaa") },
	} {
		first, second := list(), list()
		want := slices.Clone(first)
		first[0], first[1] = -1, -2
		if !slices.Equal(second, want) || !slices.Equal(list(), want) {
			t.Errorf("a change of one result shows in another: %v, want %v", second, want)
		}
	}
	first, _ := impl.WordsOf(2, 1)
	second, _ := impl.WordsOf(2, 1)
	first[0], first[1] = "x", "y"
	third, _ := impl.WordsOf(2, 2)
	if !slices.Equal(second, []string{"a", "b"}) || !slices.Equal(third, []string{"aa", "ab", "ba", "bb"}) {
		t.Errorf("a change of one result of WordsOf shows in another: %q, %q", second, third)
	}
}
