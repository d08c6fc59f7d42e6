package tests

import (
	"math"
	"math/rand"
	"slices"
	"strings"
	"sync"
	"testing"

	"loop.example/g03201/impl"
)

// tableSystem is a system with a table and images of its letters.
type tableSystem struct {
	system impl.System
	table  impl.Table
	images []int
}

// imagesAreOk asks for each condition by itself.
func imagesAreOk(table impl.Table, images []int) bool {
	if len(images) < 1 || len(images) > 4 || !tableIsOk(table) {
		return false
	}
	return !slices.ContainsFunc(images, func(i int) bool { return i < 0 || i >= table.Size })
}

// valueByHalves multiplies the values of both halves of a word.
func valueByHalves(table impl.Table, images []int, w string) int {
	if w == "" {
		return 0
	}
	if len(w) == 1 {
		return images[w[0]-'a']
	}
	half := len(w) / 2
	return table.Product[valueByHalves(table, images, w[:half])*table.Size+valueByHalves(table, images, w[half:])]
}

// satisfies needs a system with RulesOk and valid images.
func satisfies(s impl.System, table impl.Table, images []int) bool {
	if s.Letters != len(images) {
		return false
	}
	return !slices.ContainsFunc(s.Rules, func(r impl.Rule) bool {
		return valueByHalves(table, images, r.Left) != valueByHalves(table, images, r.Right)
	})
}

// listsOfNumbers calls f with all lists of n numbers less than size, in lexicographic order.
func listsOfNumbers(size, n int, f func(list []int)) {
	count := 1
	for range n {
		count *= size
	}
	for number := range count {
		list := make([]int, n)
		for place, rest := n-1, number; place >= 0; place, rest = place-1, rest/size {
			list[place] = rest % size
		}
		f(list)
	}
}

// satisfying are the lists of images that satisfy the rules, in lexicographic order.
func satisfying(s impl.System, table impl.Table) [][]int {
	var lists [][]int
	listsOfNumbers(table.Size, s.Letters, func(list []int) {
		if satisfies(s, table, list) {
			lists = append(lists, list)
		}
	})
	return lists
}

// productsOfAll adds the products of all elements it has, until there is nothing new.
func productsOfAll(table impl.Table, images []int) []int {
	has := members(table.Size, append([]int{0}, images...))
	for {
		before := listed(has)
		for _, i := range before {
			for _, k := range before {
				has[table.Product[i*table.Size+k]] = true
			}
		}
		if len(listed(has)) == len(before) {
			return before
		}
	}
}

// leastWord goes back from i: leads[n] has the elements from which n letters lead to it. Then it goes on from 0 with the least letters.
func leastWord(table impl.Table, images []int, i int) (string, bool) {
	leads := [][]bool{members(table.Size, []int{i})}
	for !leads[len(leads)-1][0] {
		if len(leads) > 16 {
			return "", false
		}
		before := make([]bool, table.Size)
		for k := range before {
			before[k] = slices.ContainsFunc(images, func(x int) bool { return leads[len(leads)-1][table.Product[k*table.Size+x]] })
		}
		leads = append(leads, before)
	}
	w, now := "", 0
	for n := len(leads) - 2; n >= 0; n-- {
		x := slices.IndexFunc(images, func(x int) bool { return leads[n][table.Product[now*table.Size+x]] })
		w += string(rune('a' + x))
		now = table.Product[now*table.Size+images[x]]
	}
	return w, true
}

// isFaithful needs a system with RulesOk and valid images.
func isFaithful(s impl.System, table impl.Table, images []int) bool {
	if !impl.SystemOk(s) || !satisfies(s, table, images) {
		return false
	}
	words, ok := monoidWords(s)
	has := make([]bool, table.Size)
	for _, w := range words {
		has[valueByHalves(table, images, w)] = true
	}
	return ok && len(listed(has)) == len(words)
}

// textsFor are words with as many letters as there are images, also of the greatest length, and strings that are none.
func textsFor(letters int) []string {
	list := wordsWith(systemOf(letters), 3)
	return append(append(list, oddTexts()...), "a", "b", "c", "d", "e", "aaaaaaaaaaaaaaab", "baaaaaaaaaaaaaaa", "aaaaaaaaaaaaaaaad", strings.Repeat("d", 16), strings.Repeat("d", 17))
}

// checkImages holds the functions without a system against a table and images that are valid.
func checkImages(t *testing.T, table impl.Table, images []int) {
	t.Helper()
	if !impl.ImagesOk(table, images) {
		t.Fatalf("ImagesOk(%v, %v) is false", table, images)
	}
	reached := productsOfAll(table, images)
	if got := impl.ReachedBy(table, images); !slices.Equal(got, reached) {
		t.Fatalf("ReachedBy(%v, %v) = %v, want %v", table, images, got, reached)
	}
	for i := range table.Size {
		want, wantOk := leastWord(table, images, i)
		w, ok := impl.ShortestWord(table, images, i)
		if w != want || ok != wantOk || ok && !slices.Contains(reached, i) {
			t.Fatalf("ShortestWord(%v, %v, %d) = %q, %v, want %q, %v", table, images, i, w, ok, want, wantOk)
		}
		if value, valueOk := impl.ValueOf(table, images, w); !valueOk || ok && value != i {
			t.Fatalf("ShortestWord(%v, %v, %d) = %q, whose value is %d, %v", table, images, i, w, value, valueOk)
		}
	}
	for _, i := range numbersAround(table.Size) {
		if w, ok := impl.ShortestWord(table, images, i); (i < 0 || i >= table.Size) && (w != "" || ok) {
			t.Fatalf("ShortestWord(%v, %v, %d) = %q, %v", table, images, i, w, ok)
		}
	}
}

// checkWords holds ValueOf against valid images.
func checkWords(t *testing.T, table impl.Table, images []int, texts []string) {
	t.Helper()
	for _, w := range texts {
		value, ok := impl.ValueOf(table, images, w)
		if !isWord(len(images), w, 16) {
			if value != 0 || ok {
				t.Fatalf("ValueOf(%v, %v, %q) = %d, %v", table, images, w, value, ok)
			}
			continue
		}
		if want := valueByHalves(table, images, w); value != want || !ok {
			t.Fatalf("ValueOf(%v, %v, %q) = %d, %v, want %d", table, images, w, value, ok, want)
		}
	}
}

// checkMaps holds CountMaps and FirstMap against a valid table that is not too great for a system with RulesOk.
func checkMaps(t *testing.T, s impl.System, table impl.Table) int {
	t.Helper()
	lists := satisfying(s, table)
	if got := impl.CountMaps(s, table); got != len(lists) {
		t.Fatalf("CountMaps(%#v, %v) = %d, want %d", s, table, got, len(lists))
	}
	if !slices.Equal(lists[0], make([]int, s.Letters)) || !impl.SatisfiesRules(s, table, lists[0]) {
		t.Fatalf("with %#v and %v, images that are all 0 do not satisfy the rules", s, table)
	}
	first, ok := impl.FirstMap(s, table)
	if len(lists) == 1 && (len(first) != 0 || ok) || len(lists) > 1 && (!slices.Equal(first, lists[1]) || !ok) {
		t.Fatalf("FirstMap(%#v, %v) = %v, %v, want the second of %v", s, table, first, ok, lists)
	}
	return len(lists)
}

// hasNoMaps checks that there are no lists of images to count.
func hasNoMaps(t *testing.T, s impl.System, table impl.Table) {
	t.Helper()
	if got := impl.CountMaps(s, table); got != -1 {
		t.Errorf("CountMaps(%#v, %v) = %d", s, table, got)
	}
	if list, ok := impl.FirstMap(s, table); len(list) != 0 || ok {
		t.Errorf("FirstMap(%#v, %v) = %v, %v", s, table, list, ok)
	}
}

// hasNoMeaning checks that no function takes the images.
func hasNoMeaning(t *testing.T, table impl.Table, images []int) {
	t.Helper()
	if impl.ImagesOk(table, images) {
		t.Errorf("ImagesOk(%v, %v) is true", table, images)
	}
	for _, w := range []string{"", "a", "b", "d", "aaaaaaaaaaaaaaaa", "e"} {
		if value, ok := impl.ValueOf(table, images, w); value != 0 || ok {
			t.Errorf("ValueOf(%v, %v, %q) = %d, %v", table, images, w, value, ok)
		}
	}
	if got := impl.ReachedBy(table, images); len(got) != 0 {
		t.Errorf("ReachedBy(%v, %v) = %v", table, images, got)
	}
	for _, i := range []int{-1, 0, 1, table.Size - 1, table.Size, math.MaxInt, math.MinInt} {
		if w, ok := impl.ShortestWord(table, images, i); w != "" || ok {
			t.Errorf("ShortestWord(%v, %v, %d) = %q, %v", table, images, i, w, ok)
		}
	}
	// Neither with the number of letters that there are images nor with another one.
	for letters := -1; letters <= 6; letters++ {
		satisfiesNone(t, systemOf(letters), table, images)
		satisfiesNone(t, systemOf(letters, ruleOf("a", "")), table, images)
	}
}

func satisfiesNone(t *testing.T, s impl.System, table impl.Table, images []int) {
	t.Helper()
	if impl.SatisfiesRules(s, table, images) {
		t.Errorf("SatisfiesRules(%#v, %v, %v) is true", s, table, images)
	}
	if impl.IsFaithful(s, table, images) {
		t.Errorf("IsFaithful(%#v, %v, %v) is true", s, table, images)
	}
}

func TestImagesOk(t *testing.T) {
	one, six, forty := tableOf(1, 0), mapsOf(t, 6, "102 021"), powersTable(0, 40)
	cases := []struct {
		table  impl.Table
		images []int
		want   bool
	}{
		{one, nil, false}, {one, []int{}, false}, {one, []int{0}, true}, {one, []int{0, 0, 0, 0}, true}, {one, []int{0, 0, 0, 0, 0}, false}, {one, []int{1}, false}, {one, []int{-1}, false},
		{six, nil, false}, {six, []int{0}, true}, {six, []int{5}, true}, {six, []int{6}, false}, {six, []int{-1}, false}, {six, []int{1, 2}, true}, {six, []int{5, 5, 5}, true}, {six, []int{0, 1, 2, 3}, true},
		{six, []int{0, 1, 2, 3, 4}, false}, {six, []int{0, 1, 2, 6}, false}, {six, []int{6, 1, 2, 3}, false}, {six, []int{0, -1, 2, 3}, false}, {six, []int{0, 1, math.MinInt}, false}, {six, []int{math.MaxInt, 0}, false},
		{forty, []int{39}, true}, {forty, []int{39, 0, 38, 39}, true}, {forty, []int{40}, false}, {forty, []int{39, 39, 39, 40}, false}, {forty, []int{1 << 32}, false}, {forty, []int{-1 << 32, 0}, false},
		{forty, slices.Repeat([]int{1}, 5), false}, {forty, slices.Repeat([]int{0}, 40), false}, {forty, slices.Repeat([]int{1}, 100000), false},
	}
	for _, c := range cases {
		if got := impl.ImagesOk(c.table, c.images); got != c.want {
			t.Errorf("ImagesOk(%v, %v) is %v", c.table, c.images, got)
		}
		if c.want {
			checkImages(t, c.table, c.images)
		} else if len(c.images) <= 40 {
			hasNoMeaning(t, c.table, c.images)
		}
	}
}

func TestTablesWithoutMeanings(t *testing.T) {
	for _, table := range invalidTables() {
		for _, images := range [][]int{nil, {}, {0}, {1}, {-1}, {0, 0}, {0, 1, 0, 1}, {0, 0, 0, 0, 0}, {table.Size - 1}, {table.Size}} {
			hasNoMeaning(t, table, images)
		}
		for letters := 1; letters <= 4; letters++ {
			hasNoMaps(t, systemOf(letters), table)
			hasNoMaps(t, systemOf(letters, ruleOf("a", "")), table)
		}
	}
}

// TestImagesThatAreNone has images that are no elements, at each place of each length.
func TestImagesThatAreNone(t *testing.T) {
	for _, table := range append(someTables(), allGroups(t)[:8]...) {
		for _, i := range numbersAround(table.Size) {
			if i >= 0 && i < table.Size {
				continue
			}
			for n := 1; n <= 4; n++ {
				for place := range n {
					images := slices.Repeat([]int{table.Size - 1}, n)
					images[place] = i
					if impl.ImagesOk(table, images) {
						t.Errorf("ImagesOk(%v, %v) is true", table, images)
					}
				}
			}
			hasNoMeaning(t, table, []int{i})
			hasNoMeaning(t, table, []int{0, i, 0})
		}
	}
}

// TestSystemsWithoutMeanings has systems that are not valid, with as many images as letters and with others.
func TestSystemsWithoutMeanings(t *testing.T) {
	var systems []impl.System
	for _, s := range append(someSystems(), invalidSystems()...) {
		if !impl.RulesOk(s) {
			systems = append(systems, s)
		}
	}
	tables := []impl.Table{tableOf(1, 0), powersTable(0, 3), firstTable(3), powersTable(0, 40)}
	for _, table := range append(tables, invalidTables()[:30]...) {
		for _, s := range systems {
			hasNoMaps(t, s, table)
			for n := range 6 {
				satisfiesNone(t, s, table, make([]int, n))
			}
		}
	}
	if len(systems) < 40 {
		t.Errorf("only %d systems are not valid", len(systems))
	}
}

func TestValueOf(t *testing.T) {
	six := mapsOf(t, 6, "102 021")
	cases := []struct {
		table  impl.Table
		images []int
		w      string
		value  int
		ok     bool
	}{
		{powersTable(0, 3), []int{1}, "", 0, true}, {powersTable(0, 3), []int{1}, "a", 1, true}, {powersTable(0, 3), []int{1}, "aaaa", 1, true}, {powersTable(0, 3), []int{2}, "aa", 1, true}, {powersTable(0, 3), []int{0}, "aaaaa", 0, true},
		{powersTable(0, 3), []int{1}, "b", 0, false}, {powersTable(0, 3), []int{1}, "ab", 0, false}, {powersTable(0, 3), []int{1}, "A", 0, false}, {powersTable(0, 3), []int{1, 2}, "ab", 0, true}, {powersTable(0, 3), []int{1, 2}, "abb", 2, true},
		{powersTable(0, 40), []int{1}, strings.Repeat("a", 16), 16, true}, {powersTable(0, 40), []int{1}, strings.Repeat("a", 17), 0, false}, {powersTable(0, 40), []int{39}, strings.Repeat("a", 16), 24, true}, {powersTable(0, 40), []int{5}, strings.Repeat("a", 16), 0, true},
		{powersTable(0, 40), []int{1, 2, 3, 4}, "abcd", 10, true}, {powersTable(0, 40), []int{1, 2, 3, 4}, "ddddddddddddddda", 21, true}, {powersTable(0, 40), []int{1, 2, 3, 4}, "addddddddddddddda", 0, false}, {powersTable(0, 40), []int{1, 2, 3, 4}, "e", 0, false}, {powersTable(0, 40), []int{1, 2, 3}, "d", 0, false},
		// The order of the letters counts.
		{six, []int{1, 2}, "ab", 3, true}, {six, []int{1, 2}, "ba", 4, true}, {six, []int{1, 2}, "aba", 5, true}, {six, []int{1, 2}, "bab", 5, true}, {six, []int{1, 2}, "ababab", 0, true}, {six, []int{2, 1}, "ab", 4, true}, {six, []int{3, 1, 2}, "abc", 4, true}, {six, []int{3, 1, 2}, "cba", 0, true},
		{firstTable(4), []int{1, 2, 3}, "cab", 3, true}, {turnedTable(firstTable(4)), []int{1, 2, 3}, "cab", 2, true}, {firstTable(4), []int{0, 2, 3}, "aaba", 2, true}, {nullTable(3, 1), []int{2}, "aa", 1, true}, {leastTable(5), []int{4, 2, 3}, "acb", 2, true},
		{tableOf(1, 0), []int{0, 0, 0, 0}, "dcba", 0, true}, {tableOf(1, 0), []int{0, 0}, "c", 0, false},
	}
	for _, c := range cases {
		if value, ok := impl.ValueOf(c.table, c.images, c.w); value != c.value || ok != c.ok {
			t.Errorf("ValueOf(%v, %v, %q) = %d, %v, want %d, %v", c.table, c.images, c.w, value, ok, c.value, c.ok)
		}
	}
}

// TestValuesWithEachByte has words with one other byte in them.
func TestValuesWithEachByte(t *testing.T) {
	table := powersTable(0, 40)
	for letters := 1; letters <= 4; letters++ {
		images := []int{1, 10, 20, 30}[:letters]
		for x := range 256 {
			for _, parts := range [][2]string{{"", ""}, {"a", ""}, {"", "a"}, {"aaaaaaaa", "aaaaaaa"}} {
				w := parts[0] + string([]byte{byte(x)}) + parts[1]
				want, wantOk := 0, x >= 'a' && x < 'a'+letters
				if wantOk {
					want = (images[x-'a'] + len(w) - 1) % 40
				}
				if value, ok := impl.ValueOf(table, images, w); value != want || ok != wantOk {
					t.Errorf("ValueOf with the images %v and %q is %d, %v, want %d, %v", images, w, value, ok, want, wantOk)
				}
			}
		}
	}
}

func TestSatisfiesRules(t *testing.T) {
	six, three := mapsOf(t, 6, "102 021"), powersTable(0, 3)
	cases := []struct {
		system string
		table  impl.Table
		images []int
		want   bool
	}{
		{"1", three, []int{1}, true}, {"1 aaa>.", three, []int{1}, true}, {"1 aa>.", three, []int{1}, false}, {"1 aa>.", three, []int{0}, true}, {"1 aaaa>a", three, []int{2}, true}, {"1 a>aaaa", three, []int{2}, true}, {"1 a>aaa", three, []int{2}, false},
		{"1 aaaaaaaa>aaaaa", three, []int{1}, true}, {"1 aaaaaaaa>aaaaaaa", three, []int{1}, false}, {"1 aaa>. aa>.", three, []int{1}, false}, {"1 aa>. aaa>.", three, []int{1}, false}, {"1 a>a", three, []int{1}, true},
		// As many images as letters, no fewer and no more, also if the rules say nothing of the others.
		{"2", three, []int{1}, false}, {"2", three, []int{1, 1}, true}, {"2", three, []int{1, 1, 1}, false}, {"2 aaa>.", three, []int{1}, false}, {"1 aaa>.", three, []int{1, 1}, false}, {"1", three, nil, false}, {"4", three, []int{0, 1, 2, 0}, true}, {"4", three, []int{0, 1, 2}, false}, {"4", three, []int{0, 1, 2, 0, 0}, false}, {"3", three, []int{0, 1, 2, 0}, false},
		{"2 aa>. bb>. ababab>.", six, []int{1, 2}, true}, {"2 aa>. bb>. bab>aba", six, []int{1, 2}, true}, {"2 aa>. bb>. ba>ab", six, []int{1, 2}, false}, {"2 ba>ab", six, []int{3, 4}, true}, {"2 ab>ba", six, []int{3, 1}, false}, {"2 ab>. ba>.", six, []int{3, 4}, true}, {"2 ab>. ba>.", six, []int{3, 3}, false},
		{"2 aa>a ab>a ba>b bb>b", firstTable(3), []int{1, 2}, true}, {"2 aa>a ab>a ba>b bb>b", turnedTable(firstTable(3)), []int{1, 2}, false}, {"2 aa>a ab>b ba>a bb>b", turnedTable(firstTable(3)), []int{1, 2}, true}, {"1 aa>a", nullTable(3, 1), []int{2}, false}, {"1 aaa>aa", nullTable(3, 1), []int{2}, true},
		{"4 abcd>.", powersTable(0, 40), []int{10, 10, 10, 10}, true}, {"4 abcd>.", powersTable(0, 40), []int{10, 10, 10, 11}, false}, {"4 abcdabcd>dcba", powersTable(0, 40), []int{10, 20, 30, 20}, true}, {"4 d>c", powersTable(0, 40), []int{0, 0, 39, 39}, true}, {"4 d>c", powersTable(0, 40), []int{0, 0, 39, 38}, false},
	}
	for _, c := range cases {
		s := parsed(t, c.system)
		if got := impl.SatisfiesRules(s, c.table, c.images); got != c.want {
			t.Errorf("SatisfiesRules(%q, %v, %v) is %v", c.system, c.table, c.images, got)
		}
		// Neither with another table that is not valid nor with images that are none.
		satisfiesNone(t, s, changed(c.table, 0, 0, c.table.Size), c.images)
		satisfiesNone(t, s, c.table, append(slices.Repeat([]int{0}, s.Letters-1), c.table.Size))
		satisfiesNone(t, s, c.table, append([]int{-1}, slices.Repeat([]int{0}, s.Letters-1)...))
	}
	// The last of as many rules as there may be is the only one that fails.
	s := systemOf(2, append(slices.Repeat([]impl.Rule{ruleOf("ba", "ab")}, 11), ruleOf("b", "a"))...)
	if impl.SatisfiesRules(s, three, []int{1, 2}) || !impl.SatisfiesRules(systemOf(2, s.Rules[:11]...), three, []int{1, 2}) || !impl.SatisfiesRules(s, three, []int{2, 2}) {
		t.Errorf("the last of twelve rules does not count")
	}
}

func TestCountMaps(t *testing.T) {
	six, four, maps := mapsOf(t, 6, "102 021"), mapsOf(t, 24, "1023 1230"), mapsOf(t, 27, "102 120 001")
	cases := []struct {
		system string
		table  impl.Table
		want   int
	}{
		// Without rules, all lists: at most 4096 of them.
		{"1", tableOf(1, 0), 1}, {"4", tableOf(1, 0), 1}, {"1", powersTable(0, 40), 40}, {"2", powersTable(0, 40), 1600}, {"3", powersTable(0, 15), 3375}, {"3", powersTable(0, 16), 4096}, {"3", powersTable(0, 17), -1}, {"3", powersTable(0, 40), -1},
		{"4", powersTable(0, 7), 2401}, {"4", powersTable(0, 8), 4096}, {"4", powersTable(0, 9), -1}, {"4", powersTable(0, 16), -1}, {"4", powersTable(0, 40), -1}, {"3", powersTable(16, 1), -1}, {"3", leastTable(16), 4096}, {"4", withZero(halvesTable(4)), -1}, {"4", halvesTable(4), 4096},
		// The rules leave fewer lists, but the bound is one for all of them.
		{"4 d>a c>a b>a a>.", powersTable(0, 8), 1}, {"4 d>a c>a b>a a>.", powersTable(0, 9), -1}, {"3 c>. b>. a>.", powersTable(0, 17), -1}, {"3 c>. b>. a>.", powersTable(0, 16), 1},
		// The numbers whose multiple is 0.
		{"1 aaa>.", powersTable(0, 3), 3}, {"1 aaa>.", powersTable(0, 4), 1}, {"1 aaaaaa>.", powersTable(0, 4), 2}, {"1 aaaaaaaa>.", powersTable(0, 40), 8}, {"1 aaaaaa>.", powersTable(0, 39), 3},
		// Elements whose square is 0, idempotents, units, and elements with powers that return.
		{"1 aa>.", six, 4}, {"1 aa>.", four, 10}, {"1 aaa>.", four, 9}, {"1 aaaa>.", four, 16}, {"1 aa>a", four, 1}, {"1 aa>a", maps, 10}, {"1 aa>a", firstTable(40), 40}, {"2 ab>. ba>.", maps, 6}, {"2 ab>. ba>.", four, 24}, {"2 ab>.", powersTable(1, 39), 1}, {"1 aaa>a", maps, 19}, {"1 aaa>aa", nullTable(40, 39), 40},
		// Two elements commute: as often as there are elements, times the classes of conjugates.
		{"2 ba>ab", six, 18}, {"2 ba>ab", four, 120}, {"2 ba>ab", matricesTable(), 168}, {"2 ba>ab", powersTable(0, 40), 1600}, {"2 ab>ba", turnsTable(20), 520}, {"2 ba>ab", cornersTable(3), 297}, {"3 ba>ab ca>ac cb>bc", six, 48}, {"3 ba>ab ca>ac cb>bc", powersTable(0, 16), 4096},
		// Permutations of three points as such, with the sign alone, or as 0; then those of four points, also as permutations of three; then idempotents that commute.
		{"2 aa>. bb>. ababab>.", six, 6 + 3 + 1}, {"2 aa>. bbb>. abababab>.", four, 24 + 24 + 9 + 1}, {"2 aa>a bb>b ba>ab", maps, 58},
		{"2 b>.", powersTable(0, 5), 5}, {"2 a>.", powersTable(0, 5), 5}, {"2 b>a", powersTable(0, 40), 40}, {"4 d>c", powersTable(0, 8), 512}, {"4 a>b", powersTable(0, 8), 512}, {"1 a>aa", powersTable(0, 40), 1},
	}
	for _, c := range cases {
		s := parsed(t, c.system)
		if got := impl.CountMaps(s, c.table); got != c.want {
			t.Errorf("CountMaps(%q, %v) = %d, want %d", c.system, c.table, got, c.want)
		}
		if c.want < 0 {
			hasNoMaps(t, s, c.table)
		} else {
			checkMaps(t, s, c.table)
		}
	}
	// Each reason for itself: rules, the table, and too many lists.
	hasNoMaps(t, systemOf(2, ruleOf("", "a")), powersTable(0, 3))
	hasNoMaps(t, systemOf(2, ruleOf("c", "a")), powersTable(0, 3))
	hasNoMaps(t, systemOf(0), powersTable(0, 3))
	hasNoMaps(t, systemOf(5), tableOf(1, 0))
	hasNoMaps(t, systemOf(1), impl.Table{})
	hasNoMaps(t, systemOf(1), powersTable(0, 41))
	hasNoMaps(t, systemOf(3), firstTable(17))
	hasNoMaps(t, systemOf(math.MaxInt), powersTable(0, 40))
	hasNoMaps(t, systemOf(1, manyRules(13)...), tableOf(1, 0))
}

// TestBoundOfLists takes all sizes of tables with all numbers of letters.
func TestBoundOfLists(t *testing.T) {
	for size := 1; size <= 40; size++ {
		for letters, count := 1, size; letters <= 4; letters, count = letters+1, count*size {
			// All letters are 0, but for the last one.
			s := systemOf(letters)
			for _, x := range "abc"[:letters-1] {
				s.Rules = append(s.Rules, ruleOf(string(x), ""))
			}
			for _, table := range []impl.Table{powersTable(0, size), firstTable(size)} {
				if count > 4096 {
					hasNoMaps(t, systemOf(letters), table)
					hasNoMaps(t, s, table)
					continue
				}
				if all, some := impl.CountMaps(systemOf(letters), table), impl.CountMaps(s, table); all != count || some != size {
					t.Errorf("with %d letters and %d elements there are %d lists and %d lists", letters, size, all, some)
				}
			}
		}
	}
}

func TestFirstMap(t *testing.T) {
	six := mapsOf(t, 6, "102 021")
	cases := []struct {
		system string
		table  impl.Table
		want   []int
	}{
		{"1 aaa>.", powersTable(0, 3), []int{1}}, {"1 aaa>.", powersTable(0, 6), []int{2}}, {"1 aa>.", powersTable(0, 40), []int{20}}, {"1", powersTable(0, 40), []int{1}}, {"1 aa>a", leastTable(5), []int{1}}, {"1 aa>a", withZero(powersTable(0, 39)), []int{39}},
		// Only images that are all 0 satisfy the rules, or there are no others.
		{"1", tableOf(1, 0), nil}, {"4", tableOf(1, 0), nil}, {"1 aa>.", powersTable(0, 3), nil}, {"1 aa>a", six, nil}, {"1 a>.", six, nil}, {"2 b>. a>.", six, nil}, {"4 d>c c>b b>a aa>a", powersTable(0, 8), nil}, {"2 aa>. bbb>. ba>.", powersTable(0, 5), nil}, {"1 aa>.", firstTable(40), nil},
		// There is a lesser list and a greater one.
		{"2", powersTable(0, 3), []int{0, 1}}, {"2 b>.", powersTable(0, 3), []int{1, 0}}, {"2 b>. aaa>.", powersTable(0, 6), []int{2, 0}}, {"2 aa>. bbb>.", powersTable(0, 6), []int{0, 2}}, {"2 b>a", powersTable(0, 40), []int{1, 1}}, {"2 ab>.", powersTable(0, 40), []int{1, 39}}, {"2 ab>. ba>.", six, []int{1, 1}},
		{"4", powersTable(0, 8), []int{0, 0, 0, 1}}, {"4 d>.", powersTable(0, 8), []int{0, 0, 1, 0}}, {"4 d>. c>.", powersTable(0, 8), []int{0, 1, 0, 0}}, {"4 d>. c>. b>.", powersTable(0, 8), []int{1, 0, 0, 0}}, {"4 d>c c>b b>a aa>.", powersTable(0, 8), []int{4, 4, 4, 4}}, {"4 d>aaaaaaa c>b b>a", powersTable(0, 8), []int{1, 1, 1, 7}},
		{"2 aa>. bb>. ababab>.", six, []int{1, 1}}, {"2 aa>b bb>a", six, []int{3, 4}}, {"2 aa>. bbb>. ab>ba", six, []int{0, 3}}, {"3 b>. c>a aaa>.", powersTable(0, 9), []int{3, 0, 3}}, {"3 c>.", powersTable(0, 16), []int{0, 1, 0}}, {"3 aab>. c>aaa", powersTable(0, 16), []int{1, 14, 3}},
		{"2 aa>a ab>a ba>b bb>b", firstTable(3), []int{1, 1}}, {"2 aa>a ab>b ba>a bb>b", firstTable(3), []int{1, 1}}, {"2 a>b b>a", firstTable(3), []int{1, 1}}, {"2 ab>. a>b", powersTable(0, 6), []int{3, 3}},
	}
	for _, c := range cases {
		s := parsed(t, c.system)
		list, ok := impl.FirstMap(s, c.table)
		if !slices.Equal(list, c.want) || ok != (len(c.want) > 0) {
			t.Errorf("FirstMap(%q, %v) = %v, %v, want %v", c.system, c.table, list, ok, c.want)
		}
		checkMaps(t, s, c.table)
	}
}

func TestReachedBy(t *testing.T) {
	six, forty := mapsOf(t, 6, "102 021"), powersTable(0, 40)
	cases := []struct {
		table  impl.Table
		images []int
		want   []int
	}{
		{tableOf(1, 0), []int{0}, []int{0}}, {powersTable(0, 3), []int{1}, []int{0, 1, 2}}, {powersTable(0, 3), []int{2}, []int{0, 1, 2}}, {powersTable(0, 6), []int{2}, []int{0, 2, 4}}, {powersTable(0, 6), []int{3, 4}, []int{0, 1, 2, 3, 4, 5}}, {powersTable(2, 2), []int{3}, []int{0, 2, 3}},
		// Images that are all 0 reach nothing else.
		{powersTable(0, 3), []int{0}, []int{0}}, {six, []int{0, 0, 0, 0}, []int{0}}, {forty, []int{0, 0}, []int{0}}, {leastTable(40), []int{0, 0, 0}, []int{0}},
		{six, []int{1}, []int{0, 1}}, {six, []int{1, 1, 0, 1}, []int{0, 1}}, {six, []int{3}, []int{0, 3, 4}}, {six, []int{1, 2}, []int{0, 1, 2, 3, 4, 5}}, {six, []int{4, 5}, []int{0, 1, 2, 3, 4, 5}},
		{firstTable(4), []int{3, 1}, []int{0, 1, 3}}, {nullTable(5, 4), []int{2, 3}, []int{0, 2, 3, 4}}, {nullTable(5, 4), []int{4}, []int{0, 4}}, {leastTable(5), []int{4, 2}, []int{0, 2, 4}}, {leastTable(40), []int{39, 30, 20, 10}, []int{0, 10, 20, 30, 39}},
		// Letters are as many as are needed, also more than a word may have.
		{forty, []int{1}, numbersFrom(0, 39)}, {forty, []int{39}, numbersFrom(0, 39)}, {forty, []int{39, 1}, numbersFrom(0, 39)}, {forty, []int{0, 0, 1}, numbersFrom(0, 39)}, {powersTable(39, 1), []int{1}, numbersFrom(0, 39)}, {powersTable(0, 18), []int{1}, numbersFrom(0, 17)},
	}
	for _, c := range cases {
		if got := impl.ReachedBy(c.table, c.images); !slices.Equal(got, c.want) {
			t.Errorf("ReachedBy(%v, %v) = %v, want %v", c.table, c.images, got, c.want)
		}
		checkImages(t, c.table, c.images)
	}
}

func TestShortestWord(t *testing.T) {
	six, forty, pairs := mapsOf(t, 6, "102 021"), powersTable(0, 40), pairsTable(powersTable(0, 2), powersTable(0, 2))
	long := func(letter string, n int) string { return strings.Repeat(letter, n) }
	cases := []struct {
		table  impl.Table
		images []int
		i      int
		want   string
		ok     bool
	}{
		// 0 has the empty word, whatever other words it has.
		{tableOf(1, 0), []int{0}, 0, "", true}, {powersTable(0, 3), []int{1}, 0, "", true}, {six, []int{0, 0}, 0, "", true}, {forty, []int{39, 20}, 0, "", true}, {firstTable(40), []int{39}, 0, "", true},
		{powersTable(0, 3), []int{1}, 1, "a", true}, {powersTable(0, 3), []int{1}, 2, "aa", true}, {powersTable(0, 3), []int{2}, 1, "aa", true}, {powersTable(0, 6), []int{0, 2}, 4, "bb", true}, {powersTable(0, 10), []int{3, 4}, 1, "abb", true}, {powersTable(0, 10), []int{4, 3}, 1, "aab", true},
		// No word has these, and no other element can be asked for.
		{powersTable(0, 6), []int{2}, 1, "", false}, {powersTable(0, 6), []int{2}, 5, "", false}, {six, []int{1}, 2, "", false}, {six, []int{0, 0, 0}, 1, "", false}, {firstTable(4), []int{3, 1}, 2, "", false}, {leastTable(5), []int{4, 2}, 1, "", false}, {six, []int{1, 2}, 6, "", false}, {six, []int{1, 2}, -1, "", false}, {tableOf(1, 0), []int{0}, 1, "", false}, {forty, []int{1}, 40, "", false}, {forty, []int{1}, math.MinInt, "", false}, {forty, []int{1}, math.MaxInt, "", false},
		// Two words of one length have this value, or two letters one image.
		{pairs, []int{1, 2}, 3, "ab", true}, {pairs, []int{2, 1}, 3, "ab", true}, {pairs, []int{2, 1}, 1, "b", true}, {pairs, []int{3, 2, 1}, 3, "a", true}, {powersTable(0, 5), []int{1, 1}, 4, "aaaa", true}, {powersTable(0, 6), []int{0, 2, 0, 2}, 2, "b", true}, {six, []int{1, 2}, 5, "aba", true}, {six, []int{2, 1}, 5, "aba", true}, {nullTable(5, 4), []int{2, 3}, 4, "aa", true}, {nullTable(5, 4), []int{0, 3}, 4, "bb", true}, {powersTable(0, 7), []int{1, 2, 3}, 4, "ac", true}, {powersTable(0, 7), []int{3, 2, 1}, 4, "ac", true}, {powersTable(0, 9), []int{3, 4}, 7, "ab", true},
		{six, []int{1, 2}, 3, "ab", true}, {six, []int{1, 2}, 4, "ba", true}, {six, []int{2, 1}, 3, "ba", true}, {six, []int{5, 4}, 3, "bb", true}, {six, []int{5, 4}, 1, "ba", true}, {six, []int{5, 4}, 2, "ab", true}, {firstTable(4), []int{3, 1}, 1, "b", true},
		// Words of the greatest length, and elements whose least word would be longer.
		{forty, []int{1}, 15, long("a", 15), true}, {forty, []int{1}, 16, long("a", 16), true}, {forty, []int{1}, 17, "", false}, {forty, []int{1}, 39, "", false}, {forty, []int{39}, 24, long("a", 16), true}, {forty, []int{39}, 23, "", false}, {forty, []int{1, 39}, 24, long("b", 16), true}, {forty, []int{1, 39}, 23, "", false}, {forty, []int{1, 39}, 17, "", false}, {forty, []int{0, 0, 0, 1}, 16, long("d", 16), true}, {forty, []int{0, 0, 0, 1}, 17, "", false},
		{forty, []int{1, 2}, 32, long("b", 16), true}, {forty, []int{1, 2}, 31, "a" + long("b", 15), true}, {forty, []int{1, 2}, 33, "", false}, {forty, []int{2, 1}, 31, long("a", 15) + "b", true}, {forty, []int{1, 2, 3}, 39, long("c", 13), true}, {forty, []int{1, 2, 3}, 37, "a" + long("c", 12), true}, {powersTable(39, 1), []int{1}, 16, long("a", 16), true}, {powersTable(39, 1), []int{1}, 39, "", false}, {powersTable(16, 1), []int{1}, 16, long("a", 16), true}, {powersTable(17, 1), []int{1}, 17, "", false},
	}
	for _, c := range cases {
		if w, ok := impl.ShortestWord(c.table, c.images, c.i); w != c.want || ok != c.ok {
			t.Errorf("ShortestWord(%v, %v, %d) = %q, %v, want %q, %v", c.table, c.images, c.i, w, ok, c.want, c.ok)
		}
		checkImages(t, c.table, c.images)
	}
}

// TestMeaningsInManyTables takes images of one to four letters, the same drawn ones each time.
func TestMeaningsInManyTables(t *testing.T) {
	r := rand.New(rand.NewSource(14))
	tables := slices.Concat(someTables(), allGroups(t), otherTables(t))
	for range 100 {
		tables = append(tables, drawnTable(r))
	}
	all, some, tooLong := 0, 0, 0
	for _, table := range tables {
		for n := 1; n <= 4; n++ {
			images := make([]int, n)
			for x := range images {
				images[x] = r.Intn(table.Size)
			}
			checkImages(t, table, images)
			reached := impl.ReachedBy(table, images)
			if len(reached) == table.Size {
				all++
			} else {
				some++
			}
			for _, i := range reached {
				if _, ok := impl.ShortestWord(table, images, i); !ok {
					tooLong++
				}
			}
			texts := textsFor(n)
			checkWords(t, table, images, append(texts[len(texts)-50:], drawnWord(r, n, 16), drawnWord(r, n, 16), drawnWord(r, n+1, 8)))
		}
	}
	if all < 100 || some < 100 || tooLong < 50 {
		t.Errorf("%d lists of images reach all elements, %d do not, and %d elements have words that are too long", all, some, tooLong)
	}
}

// TestShortestWordsAmongAllWords goes through all short words in their order: the first one with a value is the shortest one.
func TestShortestWordsAmongAllWords(t *testing.T) {
	tables := []impl.Table{powersTable(0, 7), mapsOf(t, 6, "102 021"), mapsOf(t, 8, "1230 0321"), firstTable(4), leastTable(5), mixed(powersTable(3, 3)), withZero(mapsOf(t, 6, "102 021")), brandtTable()}
	for _, table := range tables {
		for n := 1; n <= 3; n++ {
			var words []string
			for length := range 6 {
				list, _ := impl.WordsOf(n, length)
				words = append(words, list...)
			}
			listsOfNumbers(min(table.Size, 5), n, func(images []int) {
				first := map[int]string{}
				for _, w := range words {
					value, ok := impl.ValueOf(table, images, w)
					if _, there := first[value]; !there && ok {
						first[value] = w
					}
				}
				for i, want := range first {
					if w, ok := impl.ShortestWord(table, images, i); w != want || !ok {
						t.Fatalf("ShortestWord(%v, %v, %d) = %q, %v, want %q", table, images, i, w, ok, want)
					}
				}
			})
		}
	}
}

// meaningfulSystems are complete systems with a monoid, its table, and the numbers of its letters as images.
func meaningfulSystems(t *testing.T) []tableSystem {
	t.Helper()
	systems := elementSystems(t)
	for _, text := range []string{"1 aa>.", "1 aaa>.", "2 b>a aa>.", "2 a>. bb>b", "4 d>. c>. b>. a>.", "3 aa>a ab>a ba>b bb>b cc>. ca>a cb>b ac>a bc>b", "3 aa>. bbbb>. ccccc>. ba>ab ca>ac cb>bc", "4 aa>. bb>. cc>. ddddd>. ba>ab ca>ac da>ad cb>bc db>bd dc>cd"} {
		systems = append(systems, ordered(t, text))
	}
	for _, text := range []string{"aa>. bbb>. abab>.", "aa>. bbbb>. abab>.", "aa>. bbb>. ababab>.", "aa>. bbb>. abababab>."} {
		s, _ := impl.Complete(2, equationsOf(t, text))
		systems = append(systems, s)
	}
	listsOfRules(rulesOfTwoLetters(2), 2, func(list []impl.Rule) {
		if s, code := impl.Complete(2, list); code == impl.CoDone && len(systems) < 200 {
			systems = append(systems, s)
		}
	})
	var list []tableSystem
	for _, s := range systems {
		table, words, ok := impl.MonoidOf(s)
		if !ok {
			continue
		}
		images := make([]int, s.Letters)
		for x := range images {
			form, _ := impl.NormalForm(s, string(rune('a'+x)))
			images[x] = slices.Index(words, form)
		}
		list = append(list, tableSystem{s, table, images})
	}
	return list
}

// TestMonoidsAreMeanings holds P3: the value of a word is the number of its form, and the letters reach all elements.
func TestMonoidsAreMeanings(t *testing.T) {
	systems := meaningfulSystems(t)
	for _, c := range systems {
		_, words, _ := impl.MonoidOf(c.system)
		for i, w := range words {
			if value, ok := impl.ValueOf(c.table, c.images, w); value != i || !ok {
				t.Fatalf("with %#v, %q has the value %d, %v, want %d", c.system, w, value, ok, i)
			}
			if short, ok := impl.ShortestWord(c.table, c.images, i); short != w || !ok {
				t.Fatalf("with %#v, the shortest word of %q is %q, %v", c.system, w, short, ok)
			}
			for k, v := range words {
				product, _ := impl.ProductOf(c.table, i, k)
				if value, ok := impl.ValueOf(c.table, c.images, w+v); value != product || !ok {
					t.Fatalf("with %#v, %q and %q have the value %d, %v, and the product %d", c.system, w, v, value, ok, product)
				}
			}
		}
		if got := impl.ReachedBy(c.table, c.images); !slices.Equal(got, numbersFrom(0, c.table.Size-1)) {
			t.Fatalf("with %#v, the letters %v reach %v", c.system, c.images, got)
		}
		if !impl.SatisfiesRules(c.system, c.table, c.images) || !impl.IsFaithful(c.system, c.table, c.images) {
			t.Fatalf("with %#v, the letters %v satisfy the rules: %v, faithfully: %v", c.system, c.images, impl.SatisfiesRules(c.system, c.table, c.images), impl.IsFaithful(c.system, c.table, c.images))
		}
		for _, w := range wordsWith(c.system, 4) {
			form, _ := impl.NormalForm(c.system, w)
			if value, ok := impl.ValueOf(c.table, c.images, w); !ok || words[value] != form {
				t.Fatalf("with %#v, %q has the value of %q, %v, and the form %q", c.system, w, words[value], ok, form)
			}
		}
		checkImages(t, c.table, c.images)
	}
	if len(systems) < 60 {
		t.Errorf("only %d systems have a monoid", len(systems))
	}
}

func TestIsFaithful(t *testing.T) {
	six := mapsOf(t, 6, "102 021")
	cases := []struct {
		system string
		table  impl.Table
		images []int
		want   bool
	}{
		{"1 a>.", tableOf(1, 0), []int{0}, true}, {"1 a>.", powersTable(0, 40), []int{0}, true}, {"4 d>. c>. b>. a>.", six, []int{0, 0, 0, 0}, true}, {"1 aaa>.", powersTable(0, 3), []int{1}, true}, {"1 aaa>.", powersTable(0, 3), []int{2}, true}, {"1 aaa>.", powersTable(0, 6), []int{2}, true}, {"1 aaa>.", six, []int{4}, true},
		{"2 aa>. bb>. bab>aba", six, []int{1, 2}, true}, {"2 aa>. bb>. bab>aba", six, []int{5, 2}, true}, {"2 aa>. bb>. ba>ab", pairsTable(powersTable(0, 2), powersTable(0, 2)), []int{3, 1}, true}, {"1 aaaa>aa", powersTable(2, 2), []int{1}, true}, {"1 aaaa>aa", powersTable(2, 2), []int{3}, false}, {"2 aa>a ab>a ba>b bb>b", firstTable(40), []int{39, 1}, true}, {"2 b>a aaa>.", powersTable(0, 9), []int{3, 3}, true}, {"1 aaaaaaaa>.", powersTable(0, 40), []int{5}, true}, {"1 aaaaaaaa>.", powersTable(0, 40), []int{15}, true},
		// Two elements, or all, have one value.
		{"1 aaa>.", powersTable(0, 3), []int{0}, false}, {"1 aaa>.", tableOf(1, 0), []int{0}, false}, {"2 aa>. bb>. bab>aba", six, []int{1, 1}, false}, {"2 aa>. bb>. bab>aba", six, []int{0, 0}, false}, {"2 aa>. bb>. ba>ab", pairsTable(powersTable(0, 2), powersTable(0, 2)), []int{3, 3}, false}, {"2 aa>a ab>a ba>b bb>b", firstTable(40), []int{39, 39}, false}, {"1 aaaaaaaa>.", powersTable(0, 40), []int{10}, false}, {"1 aaaaaaaa>.", powersTable(0, 40), []int{0}, false}, {"1 aa>a", leastTable(5), []int{0}, false}, {"1 aa>a", leastTable(5), []int{3}, true},
		// The images do not satisfy the rules, although all elements have values of their own.
		{"1 aaa>.", powersTable(0, 4), []int{1}, false}, {"1 aaa>.", powersTable(0, 40), []int{1}, false}, {"1 aa>a", six, []int{1}, false}, {"2 aa>. bb>. bab>aba", six, []int{1, 3}, false}, {"2 aa>. bb>. ba>ab", six, []int{1, 2}, false}, {"2 aa>a ab>a ba>b bb>b", turnedTable(firstTable(40)), []int{39, 1}, false}, {"1 a>.", powersTable(0, 2), []int{1}, false},
		// Fewer images than letters, and more.
		{"2 b>a aaa>.", powersTable(0, 3), []int{1}, false}, {"1 aaa>.", powersTable(0, 3), []int{1, 1}, false}, {"1 aaa>.", powersTable(0, 3), nil, false}, {"4 d>. c>. b>. a>.", six, []int{0, 0, 0}, false}, {"4 d>. c>. b>. a>.", six, []int{0, 0, 0, 0, 0}, false},
		// There is no finite monoid, or a greater one than any table.
		{"1", powersTable(0, 40), []int{1}, false}, {"2 ba>ab", powersTable(0, 40), []int{1, 2}, false}, {"2 ab>. ba>.", powersTable(0, 40), []int{1, 39}, false}, {"2 aa>. bb>.", six, []int{1, 2}, false}, {"4", tableOf(1, 0), []int{0, 0, 0, 0}, false}, {"2 aaaaaaaa>. bbbbbbbb>. ba>ab", powersTable(0, 8), []int{1, 1}, false}, {"2 aaaaaaaa>. bbb>. ba>ab", powersTable(0, 24), []int{3, 8}, false},
		// Not complete, and not ordered: here, the values of the reduced words would be different.
		{"1 aaa>. aaaa>a aa>a", tableOf(1, 0), []int{0}, false}, {"2 aa>b bb>a ab>a ba>b", tableOf(1, 0), []int{0, 0}, false}, {"2 aa>. bb>. aba>a", powersTable(0, 2), []int{1, 1}, false}, {"1 a>aaaa", powersTable(0, 3), []int{1}, false}, {"1 aaa>. a>aaaa", powersTable(0, 3), []int{1}, false}, {"2 aaa>. a>b", powersTable(0, 3), []int{1, 1}, false}, {"1 aaa>. a>a", powersTable(0, 3), []int{1}, false},
	}
	for _, c := range cases {
		s := parsed(t, c.system)
		if got := impl.IsFaithful(s, c.table, c.images); got != c.want {
			t.Errorf("IsFaithful(%q, %v, %v) is %v", c.system, c.table, c.images, got)
		}
		if imagesAreOk(c.table, c.images) && isFaithful(s, c.table, c.images) != c.want {
			t.Errorf("the values of the words of %q in %v with %v are different: %v", c.system, c.table, c.images, !c.want)
		}
		satisfiesNone(t, s, changed(c.table, 0, 0, c.table.Size), c.images)
		satisfiesNone(t, s, impl.Table{}, c.images)
	}
}

// TestFaithfulMapsAreCounted goes through all lists: a group has as many faithful maps to itself as it has ways to be renamed.
func TestFaithfulMapsAreCounted(t *testing.T) {
	six, four := mapsOf(t, 6, "102 021"), mapsOf(t, 24, "1023 1230")
	cases := []struct {
		system, equations string
		table             impl.Table
		faithful, all     int
	}{
		{"1 aaaaaa>.", "", powersTable(0, 6), 2, 6}, {"1 aaaaa>.", "", powersTable(0, 40), 4, 5}, {"1 aaaa>.", "", powersTable(0, 6), 0, 2}, {"2 aa>. bb>. ba>ab", "", pairsTable(powersTable(0, 2), powersTable(0, 2)), 6, 16}, {"2 aa>. bb>. ba>ab", "", pairsTable(powersTable(0, 2), powersTable(0, 4)), 6, 16},
		// The permutations of three points, in themselves and in those of four points; then the latter ones.
		{"2 aa>. bb>. bab>aba", "", six, 6, 10}, {"2 aa>. bb>. bab>aba", "", four, 24, 34}, {"2 aa>. bb>. bab>aba", "", mapsOf(t, 12, "1032 1203"), 0, 4}, {"2", "aa>. bbb>. abababab>.", four, 24, 58}, {"2", "aa>. bbbb>. abab>.", turnsTable(4), 8, 36},
		{"2 aa>a ab>a ba>b bb>b", "", firstTable(5), 12, 17}, {"2 aa>a bb>b ba>ab", "", leastTable(4), 0, 16}, {"1 aaaa>aa", "", powersTable(2, 2), 1, 4}, {"1 a>.", "", six, 1, 1},
	}
	for _, c := range cases {
		s := parsed(t, c.system)
		if c.equations != "" {
			s, _ = impl.Complete(s.Letters, equationsOf(t, c.equations))
		}
		faithful, all := 0, 0
		listsOfNumbers(c.table.Size, s.Letters, func(images []int) {
			got := impl.IsFaithful(s, c.table, images)
			if got != isFaithful(s, c.table, images) {
				t.Fatalf("IsFaithful(%#v, %v, %v) is %v", s, c.table, images, got)
			}
			if got {
				faithful++
			}
			if impl.SatisfiesRules(s, c.table, images) {
				all++
			}
		})
		if faithful != c.faithful || all != c.all || checkMaps(t, s, c.table) != c.all {
			t.Errorf("with %q and %q, %d of %d lists are faithful, want %d of %d", c.system, c.equations, faithful, all, c.faithful, c.all)
		}
	}
}

// TestSystemsThatAreNotComplete has few reduced words, but some of them are equal by the rules: no images can tell these apart.
func TestSystemsThatAreNotComplete(t *testing.T) {
	tables := []impl.Table{tableOf(1, 0), powersTable(0, 2), powersTable(1, 1), powersTable(0, 4), mapsOf(t, 6, "102 021"), firstTable(4), nullTable(5, 2)}
	for _, text := range []string{
		"2 aa>. bb>. aba>a", "2 aa>. ab>. ba>b bb>a", "1 aaa>. aaaa>a aa>a", "1 aaa>. aa>a", "2 b>a b>. aa>.", "2 aa>b bb>a ab>a ba>b", "2 aa>. bb>. baba>ab", "1 aaaaaaaa>. aaaaa>.",
	} {
		s := ordered(t, text)
		for _, table := range tables {
			checkMaps(t, s, table)
			for _, images := range satisfying(s, table) {
				if !impl.SatisfiesRules(s, table, images) || impl.IsFaithful(s, table, images) {
					t.Errorf("the images %v of %q in %v satisfy the rules: %v, faithfully: %v", images, text, table, impl.SatisfiesRules(s, table, images), impl.IsFaithful(s, table, images))
				}
			}
		}
	}
}

// checkEqualWords holds P4: words that steps make equal have one value, and so has the form, if there is one.
func checkEqualWords(t *testing.T, c tableSystem, w string) {
	t.Helper()
	value, ok := impl.ValueOf(c.table, c.images, w)
	if !ok {
		t.Fatalf("ValueOf(%v, %v, %q) fails", c.table, c.images, w)
	}
	for _, x := range impl.StepsOf(c.system, w) {
		next, short := impl.ApplyStep(c.system, w, x)
		if other, ok := impl.ValueOf(c.table, c.images, next); short && (other != value || !ok) {
			t.Fatalf("with %#v, %v and %v, %q has the value %d, and %q %d, %v", c.system, c.table, c.images, w, value, next, other, ok)
		}
	}
	if form, ok := impl.NormalForm(c.system, w); ok {
		if other, ok := impl.ValueOf(c.table, c.images, form); other != value || !ok {
			t.Fatalf("with %#v, %v and %v, %q has the value %d, and its form %q %d, %v", c.system, c.table, c.images, w, value, form, other, ok)
		}
	}
}

// TestEqualWordsHaveOneValue takes all lists of images that satisfy the rules of many systems, ordered and not.
func TestEqualWordsHaveOneValue(t *testing.T) {
	systems := append(longSystems(t), unorderedSystems()...)
	tables := []impl.Table{tableOf(1, 0), powersTable(0, 3), mapsOf(t, 6, "102 021"), firstTable(4), mixed(powersTable(2, 4)), nullTable(5, 3), brandtTable(), halvesTable(4)}
	lists, others := 0, 0
	for _, s := range systems {
		words := wordsWith(s, 3)
		for _, table := range tables {
			checkMaps(t, s, table)
			for n, images := range satisfying(s, table) {
				lists++
				if n > 0 {
					others++
				}
				for i := 0; i < len(words); i += 1 + n%7 {
					checkEqualWords(t, tableSystem{s, table, images}, words[i])
				}
				if n > 60 {
					break
				}
			}
		}
	}
	if lists < 1000 || others < 800 {
		t.Errorf("%d lists satisfy rules, %d of them are not all 0", lists, others)
	}
}

// TestImagesThatAreAllZero holds P4: they satisfy the rules of every system, and the value of every word is 0.
func TestImagesThatAreAllZero(t *testing.T) {
	tables := append(someTables(), allGroups(t)[:6]...)
	check := func(s impl.System, table impl.Table) {
		images := make([]int, s.Letters)
		if !impl.SatisfiesRules(s, table, images) {
			t.Fatalf("SatisfiesRules(%#v, %v, %v) is false", s, table, images)
		}
		for _, w := range wordsWith(s, 1) {
			if value, ok := impl.ValueOf(table, images, w); value != 0 || !ok {
				t.Fatalf("ValueOf(%v, %v, %q) = %d, %v", table, images, w, value, ok)
			}
		}
	}
	n := 0
	smallSystems(func(s impl.System) {
		n++
		check(s, tables[n%len(tables)])
	})
	for _, s := range append(longSystems(t), someSystems()...) {
		if !impl.RulesOk(s) {
			continue
		}
		for _, table := range tables {
			check(s, table)
		}
	}
}

// valuedRules draws rules with sides that have one value, so that the images satisfy them, but for the last one in some cases.
func valuedRules(r *rand.Rand, table impl.Table, images []int) []impl.Rule {
	var rules []impl.Rule
	for range 40 {
		x := ruleOf(drawnWord(r, len(images), 8), drawnWord(r, len(images), 4))
		if x.Left != "" && len(rules) < 11 && valueByHalves(table, images, x.Left) == valueByHalves(table, images, x.Right) {
			rules = append(rules, x)
		}
	}
	if r.Intn(3) > 0 {
		rules = append(rules, ruleOf("a"+drawnWord(r, len(images), 7), drawnWord(r, len(images), 8)))
	}
	return rules
}

// TestMeaningsOfDrawnSystems draws the same tables, images and rules each time.
func TestMeaningsOfDrawnSystems(t *testing.T) {
	r := rand.New(rand.NewSource(15))
	satisfied, failed, several, few := 0, 0, 0, 0
	for range 1500 {
		table := drawnTable(r)
		images := make([]int, 1+r.Intn(4))
		for x := range images {
			images[x] = r.Intn(table.Size)
		}
		s := systemOf(len(images), valuedRules(r, table, images)...)
		want := satisfies(s, table, images)
		if got := impl.SatisfiesRules(s, table, images); got != want {
			t.Fatalf("SatisfiesRules(%#v, %v, %v) is %v", s, table, images, got)
		}
		if got := impl.IsFaithful(s, table, images); got != isFaithful(s, table, images) {
			t.Fatalf("IsFaithful(%#v, %v, %v) is %v", s, table, images, got)
		}
		if want {
			satisfied++
			checkEqualWords(t, tableSystem{s, table, images}, drawnWord(r, len(images), 16))
		} else {
			failed++
		}
		if lists := math.Pow(float64(table.Size), float64(s.Letters)); lists > 4096 {
			hasNoMaps(t, s, table)
		} else if lists > 600 {
			continue
		} else if checkMaps(t, s, table) > 1 {
			several++
		} else {
			few++
		}
	}
	if satisfied < 500 || failed < 200 || several < 200 || few < 20 {
		t.Errorf("%d lists satisfy the rules, %d do not; %d systems have several of them, %d only one", satisfied, failed, several, few)
	}
}

// TestMeaningsOfSmallTables takes all tables of at most three elements with all lists of at most two images, and some rules.
func TestMeaningsOfSmallTables(t *testing.T) {
	valid := 0
	systems := []impl.System{systemOf(1), parsed(t, "1 aa>."), parsed(t, "1 aa>a"), systemOf(2), parsed(t, "2 ba>ab"), parsed(t, "2 ab>."), parsed(t, "2 aa>b bb>a"), parsed(t, "2 ab>a ba>b")}
	for size := 1; size <= 3; size++ {
		allTables(size, 0, size-1, true, func(table impl.Table) {
			if !tableIsOk(table) {
				hasNoMeaning(t, table, []int{0})
				hasNoMaps(t, systems[1], table)
				return
			}
			valid++
			for n := 1; n <= 2; n++ {
				listsOfNumbers(size, n, func(images []int) {
					checkImages(t, table, images)
					checkWords(t, table, images, textsFor(n))
				})
			}
			for _, s := range systems {
				checkMaps(t, s, table)
			}
		})
	}
	if valid < 10 {
		t.Errorf("only %d tables are valid", valid)
	}
}

// callMeanings calls every function of chapter 12.
func callMeanings(s impl.System, table impl.Table, images []int) {
	impl.ImagesOk(table, images)
	impl.ReachedBy(table, images)
	for _, w := range []string{"", "a", "abcd", "ba", "e", strings.Repeat("a", 16), strings.Repeat("a", 17)} {
		impl.ValueOf(table, images, w)
	}
	for _, i := range []int{-1, 0, 1, table.Size - 1, table.Size, math.MaxInt} {
		impl.ShortestWord(table, images, i)
	}
	impl.SatisfiesRules(s, table, images)
	impl.IsFaithful(s, table, images)
	impl.CountMaps(s, table)
	impl.FirstMap(s, table)
}

// TestMeaningArgumentsAreKept holds chapter 1 against the functions of chapter 12.
func TestMeaningArgumentsAreKept(t *testing.T) {
	tables := append([]impl.Table{powersTable(0, 3), mapsOf(t, 6, "102 021"), firstTable(4), powersTable(0, 40)}, invalidTables()...)
	systems := slices.Concat(longSystems(t)[:12], unorderedSystems(), invalidSystems(), elementSystems(t)[:4])
	for n, table := range tables {
		for k, s := range systems {
			if n > 3 && (n+k)%5 > 0 {
				continue
			}
			rules, all := spared(s.Rules)
			whole := append(slices.Clone(table.Product), -7, -8, -9)
			list := []int{1, 0, table.Size - 1, 1, 0, -7}
			images := list[:(n+k)%6]
			if s.Letters > 0 && s.Letters < 5 {
				images = list[:s.Letters]
			}
			rulesBefore, before, listBefore := slices.Clone(all), slices.Clone(whole), slices.Clone(list)
			callMeanings(impl.System{Letters: s.Letters, Rules: rules}, tableOf(table.Size, whole[:len(table.Product)]...), images)
			if !slices.Equal(all, rulesBefore) || !slices.Equal(whole, before) || !slices.Equal(list, listBefore) {
				t.Fatalf("the rules of %#v became %q, the products of %v became %v, or the images %v became %v", s, all, table, whole, listBefore, list)
			}
		}
	}
}

// TestMeaningResultsAreNew changes the results, also behind their ends, and asks again.
func TestMeaningResultsAreNew(t *testing.T) {
	s, table, images := ordered(t, "2 aa>. bb>. bab>aba"), mapsOf(t, 6, "102 021"), []int{1, 2}
	kept, rules := slices.Clone(table.Product), slices.Clone(s.Rules)
	functions := map[string]func() []int{
		"ReachedBy":        func() []int { return impl.ReachedBy(table, images) },
		"ReachedBy of one": func() []int { return impl.ReachedBy(table, images[:1]) },
		"FirstMap": func() []int {
			list, _ := impl.FirstMap(s, table)
			return list
		},
	}
	for name, ask := range functions {
		first, second := ask(), ask()
		want := slices.Clone(second)
		fillNumbers(first)
		if len(want) == 0 || !slices.Equal(second, want) || !slices.Equal(ask(), want) || !slices.Equal(table.Product, kept) || !slices.Equal(images, []int{1, 2}) || !slices.Equal(s.Rules, rules) {
			t.Errorf("a change of the result of %s changed %v, %v, %v, %v or %#v, which were %v", name, second, ask(), images, table, s, want)
		}
	}
}

// TestMeaningsAreTheSameEachTime asks several times at once, and with other tables in between.
func TestMeaningsAreTheSameEachTime(t *testing.T) {
	groups, others, systems := otherGroups(t), invalidTables(), meaningfulSystems(t)[:20]
	var wait sync.WaitGroup
	for n := range 8 {
		wait.Go(func() {
			for i, table := range groups {
				images := []int{(n + i) % table.Size, table.Size - 1}
				if got := impl.ReachedBy(table, images); !slices.Equal(got, productsOfAll(table, images)) {
					t.Errorf("ReachedBy(%v, %v) = %v", table, images, got)
				}
				want, _ := leastWord(table, images, table.Size/2)
				if w, _ := impl.ShortestWord(table, images, table.Size/2); w != want {
					t.Errorf("ShortestWord(%v, %v, %d) = %q, want %q", table, images, table.Size/2, w, want)
				}
				c := systems[i%len(systems)]
				callMeanings(c.system, others[i%len(others)], images)
				if !impl.IsFaithful(c.system, c.table, c.images) {
					t.Errorf("IsFaithful(%#v, %v, %v) is false", c.system, c.table, c.images)
				}
			}
		})
	}
	wait.Wait()
}
