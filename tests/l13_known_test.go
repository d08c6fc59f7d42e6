package tests

import (
	"math/rand"
	"slices"
	"strconv"
	"strings"
	"sync"
	"testing"

	"loop.example/g03201/impl"
)

// knownSystem is a system with its text, the reduced form of each word, and the number of reduced words of each length.
type knownSystem struct {
	name   string
	make   func(n int) (impl.System, bool)
	n      int
	text   string
	form   func(w string) string
	counts func(length int) int
}

// remainder has as many letters as the length leaves when it is divided by n.
func remainder(n int) func(w string) string {
	return func(w string) string { return w[:len(w)%n] }
}

func sortedLetters(w string) string {
	x := []byte(w)
	slices.Sort(x)
	return string(x)
}

// withoutRepeats leaves out the letters behind a letter that are the same.
func withoutRepeats(w string) string {
	return string(slices.Compact([]byte(w)))
}

// withoutBrackets leaves out each letter that closes what is open before it, together with this one.
func withoutBrackets(w string) string {
	var open []byte
	for _, x := range []byte(w) {
		if last := len(open) - 1; last >= 0 && x%2 == 0 && open[last] == x-1 {
			open = open[:last]
		} else {
			open = append(open, x)
		}
	}
	return string(open)
}

// oneUpTo counts one word of each length less than n.
func oneUpTo(n int) func(length int) int {
	return func(length int) int {
		if length < n {
			return 1
		}
		return 0
	}
}

// sortedWords counts the ways to write a length as a sum of k numbers.
func sortedWords(k int) func(length int) int {
	return func(length int) int {
		if k == 1 {
			return 1
		}
		sum := 0
		for first := 0; first <= length; first++ {
			sum += sortedWords(k - 1)(length - first)
		}
		return sum
	}
}

// wordsWithoutRepeats has k first letters and then k - 1 each.
func wordsWithoutRepeats(k int) func(length int) int {
	return func(length int) int {
		count := 1
		for i := range length {
			count *= k - min(i, 1)
		}
		return count
	}
}

// wordsWithoutBrackets has 2 * k letters behind each word, but one fewer behind those that end with one of the k letters that open:
// there are k of them for each word that is shorter by one letter.
func wordsWithoutBrackets(k int) func(length int) int {
	return func(length int) int {
		before, count := 0, 1
		for range length {
			before, count = count, 2*k*count-k*before
		}
		return count
	}
}

// knownSystems are those of all sizes, but for those of tables.
func knownSystems() []knownSystem {
	list := []knownSystem{
		{"SortingSystem", impl.SortingSystem, 1, "1", sortedLetters, sortedWords(1)},
		{"SortingSystem", impl.SortingSystem, 2, "2 ba>ab", sortedLetters, sortedWords(2)},
		{"SortingSystem", impl.SortingSystem, 3, "3 ba>ab ca>ac cb>bc", sortedLetters, sortedWords(3)},
		{"SortingSystem", impl.SortingSystem, 4, "4 ba>ab ca>ac cb>bc da>ad db>bd dc>cd", sortedLetters, sortedWords(4)},
		{"ProjectorSystem", impl.ProjectorSystem, 1, "1 aa>a", withoutRepeats, wordsWithoutRepeats(1)},
		{"ProjectorSystem", impl.ProjectorSystem, 2, "2 aa>a bb>b", withoutRepeats, wordsWithoutRepeats(2)},
		{"ProjectorSystem", impl.ProjectorSystem, 3, "3 aa>a bb>b cc>c", withoutRepeats, wordsWithoutRepeats(3)},
		{"ProjectorSystem", impl.ProjectorSystem, 4, "4 aa>a bb>b cc>c dd>d", withoutRepeats, wordsWithoutRepeats(4)},
		{"BracketSystem", impl.BracketSystem, 1, "2 ab>.", withoutBrackets, wordsWithoutBrackets(1)},
		{"BracketSystem", impl.BracketSystem, 2, "4 ab>. cd>.", withoutBrackets, wordsWithoutBrackets(2)},
	}
	for i, text := range []string{"1 a>.", "1 aa>.", "1 aaa>.", "1 aaaa>.", "1 aaaaa>.", "1 aaaaaa>.", "1 aaaaaaa>.", "1 aaaaaaaa>."} {
		list = append(list, knownSystem{"CyclicSystem", impl.CyclicSystem, i + 1, text, remainder(i + 1), oneUpTo(i + 1)})
	}
	return list
}

// made needs a known system that there is.
func (c knownSystem) made(t *testing.T) impl.System {
	t.Helper()
	s, ok := c.make(c.n)
	if !ok {
		t.Fatalf("%s(%d) fails", c.name, c.n)
	}
	return s
}

// tableText has a letter for each element other than 0.
func tableText(table impl.Table) string {
	names := []string{".", "a", "b", "c"}
	text := strconv.Itoa(table.Size - 1)
	for i, left := range names[:table.Size] {
		for k, right := range names[:table.Size] {
			if i > 0 && k > 0 {
				text += " " + left + right + ">" + names[table.Product[i*table.Size+k]]
			}
		}
	}
	return text
}

// validTables are all valid tables of a size. A product is tried only if no product depends on brackets, of those that are there already.
func validTables(size int) []impl.Table {
	table := nullTable(size, -1)
	var list []impl.Table
	var fill func(place int)
	fill = func(place int) {
		switch {
		case place == size*size:
			list = append(list, tableOf(size, slices.Clone(table.Product)...))
		case place < size || place%size == 0:
			fill(place + 1)
		default:
			for x := range size {
				table.Product[place] = x
				if !hasOpenTriple(table) {
					fill(place + 1)
				}
			}
			table.Product[place] = -1
		}
	}
	fill(0)
	return list
}

// hasOpenTriple takes products of -1 as ones that are not yet there.
func hasOpenTriple(table impl.Table) bool {
	product := func(i, k int) int {
		if i < 0 || k < 0 {
			return -1
		}
		return table.Product[i*table.Size+k]
	}
	for i := 1; i < table.Size; i++ {
		for k := 1; k < table.Size; k++ {
			for x := 1; x < table.Size; x++ {
				first, second := product(product(i, k), x), product(i, product(k, x))
				if first >= 0 && second >= 0 && first != second {
					return true
				}
			}
		}
	}
	return false
}

// tablesUpTo are the valid tables of at most size elements.
func tablesUpTo(size int) []impl.Table {
	var list []impl.Table
	for n := 1; n <= size; n++ {
		list = append(list, validTables(n)...)
	}
	return list
}

// renamings calls f with all new numbers of the elements, of which 0 keeps its own if fixed is set.
func renamings(size int, fixed bool, f func(names []int)) {
	var extend func(names []int)
	extend = func(names []int) {
		if len(names) == size {
			f(slices.Clone(names))
			return
		}
		for name := range size {
			if !slices.Contains(names, name) {
				extend(append(names, name))
			}
		}
	}
	if fixed {
		extend([]int{0})
	} else {
		extend(nil)
	}
}

// leastRenamed is the least list of products that renamings give. Tables are isomorphic exactly if these are equal.
func leastRenamed(table impl.Table) []int {
	least := table.Product
	renamings(table.Size, true, func(names []int) {
		if other := renamed(table, names).Product; slices.Compare(other, least) < 0 {
			least = other
		}
	})
	return least
}

// kindsOf are the first tables of each kind, of those that are isomorphic.
func kindsOf(t *testing.T, tables []impl.Table) []impl.Table {
	t.Helper()
	kinds := map[string]impl.Table{}
	var list []impl.Table
	for _, table := range tables {
		name := textOf(leastRenamed(table))
		if first, ok := kinds[name]; ok {
			if !impl.AreIsomorphic(table, first) || !impl.AreIsomorphic(first, table) {
				t.Fatalf("%v and %v are not isomorphic", table, first)
			}
			continue
		}
		kinds[name] = table
		list = append(list, table)
	}
	return list
}

func textOf(list []int) string {
	var parts []string
	for _, n := range list {
		parts = append(parts, strconv.Itoa(n))
	}
	return strings.Join(parts, ",")
}

func TestTextsOfKnownSystems(t *testing.T) {
	for _, c := range knownSystems() {
		s, ok := c.make(c.n)
		if text := impl.FormatSystem(s); text != c.text || !ok || !equalSystems(s, parsed(t, c.text)) {
			t.Errorf("%s(%d) = %#v, %v, want %q", c.name, c.n, s, ok, c.text)
		}
	}
}

// TestSizesOfKnownSystems has every number near the sizes that there are, and great ones.
func TestSizesOfKnownSystems(t *testing.T) {
	sizes := map[string]int{"CyclicSystem": 8, "SortingSystem": 4, "ProjectorSystem": 4, "BracketSystem": 2}
	if impl.MaxSide != 8 || impl.MaxLetters != 4 {
		t.Fatalf("MaxSide is %d, and MaxLetters %d", impl.MaxSide, impl.MaxLetters)
	}
	for _, c := range knownSystems() {
		for _, n := range append(numbersFrom(-40, 40), greatNumbers()...) {
			s, ok := c.make(n)
			if want := 1 <= n && n <= sizes[c.name]; ok != want || !ok && !isZeroSystem(s) {
				t.Errorf("%s(%d) = %#v, %v", c.name, n, s, ok)
			}
		}
	}
}

// checkKnown holds P5: the system is complete, no rule is there twice, and each rule is needed.
func checkKnown(t *testing.T, s impl.System) {
	t.Helper()
	if !impl.SystemOk(s) || !impl.IsComplete(s) || !isConfluent(s) || len(impl.OpenPairs(s)) != 0 || !impl.IsInterreduced(s) {
		t.Fatalf("%#v is ordered: %v, complete: %v and %v, interreduced: %v", s, impl.SystemOk(s), impl.IsComplete(s), isConfluent(s), impl.IsInterreduced(s))
	}
	for i, r := range s.Rules {
		if slices.Index(s.Rules, r) != i || slices.ContainsFunc(s.Rules[:i], func(other impl.Rule) bool { return other.Left == r.Left }) {
			t.Fatalf("%#v has a rule or a Left twice", s)
		}
	}
	if complete, code := impl.Complete(s.Letters, s.Rules); code != impl.CoDone || !equalSystems(complete, s) {
		t.Fatalf("the completion of %#v is %#v, %d", s, complete, code)
	}
}

// checkGrowth holds the numbers of reduced words, and the words of the first lengths, against the form of each word.
func checkGrowth(t *testing.T, s impl.System, form func(w string) string, counts func(length int) int) {
	t.Helper()
	growth := impl.GrowthOf(s, 16)
	for n := range 17 {
		if count := impl.CountReduced(s, n); count != counts(n) || growth[n] != counts(n) {
			t.Fatalf("%#v has %d and %d reduced words of %d letters, want %d", s, count, growth[n], n, counts(n))
		}
	}
	var words [][]string
	for range 6 {
		words = append(words, nil)
	}
	textsOf("abcd"[:s.Letters], 5, func(w string) {
		if form(w) == w {
			words[len(w)] = append(words[len(w)], w)
		}
	})
	for n, want := range words {
		list, ok := impl.ReducedWords(s, n)
		if len(want) != counts(n) || ok != (len(want) <= 256) || ok && !slices.Equal(list, want) {
			t.Fatalf("%#v has the reduced words %q, %v, want %d, which are %q", s, list, ok, counts(n), want)
		}
	}
	if longest, all := impl.LongestReduced(s), impl.CountAll(s); counts(16) > 0 && (longest != -1 || all != -1) {
		t.Fatalf("%#v has reduced words of at most %d letters, which are %d", s, longest, all)
	}
}

// checkForms holds P2: every word has one reduced form, whatever steps are made, and words have a proof exactly if they have one form.
func checkForms(t *testing.T, s impl.System, form func(w string) string) {
	t.Helper()
	var words []string
	textsOf("abcd"[:s.Letters], lengthFor(s), func(w string) { words = append(words, w) })
	for _, w := range words {
		if got, ok := impl.NormalForm(s, w); got != form(w) || !ok {
			t.Fatalf("NormalForm(%#v, %q) = %q, %v, want %q", s, w, got, ok, form(w))
		}
		checkOneForm(t, s, w, form(w))
	}
	for i, u := range words {
		for k := i; k < len(words); k += 1 + i%5 {
			if got := checkProof(t, s, u, words[k]); got != (form(u) == form(words[k])) {
				t.Fatalf("%q and %q have a proof with %#v: %v", u, words[k], s, got)
			}
		}
	}
	r := rand.New(rand.NewSource(18))
	for range 60 {
		w := drawnWord(r, s.Letters, 16)
		got, ok := impl.NormalForm(s, w)
		if far, farOk := impl.FarForm(s, w); got != form(w) || far != got || !ok || !farOk {
			t.Fatalf("NormalForm(%#v, %q) = %q, %v, FarForm is %q, %v, want %q", s, w, got, ok, far, farOk, form(w))
		}
	}
}

func TestKnownSystemsAreComplete(t *testing.T) {
	for _, c := range knownSystems() {
		checkKnown(t, c.made(t))
	}
}

func TestReducedWordsOfKnownSystems(t *testing.T) {
	for _, c := range knownSystems() {
		checkGrowth(t, c.made(t), c.form, c.counts)
	}
	growths := map[string][]int{
		"1 aaa>.": {1, 1, 1, 0, 0, 0}, "1 aa>a": {1, 1, 0, 0, 0, 0}, "1": {1, 1, 1, 1, 1, 1}, "2 ba>ab": {1, 2, 3, 4, 5, 6}, "3 ba>ab ca>ac cb>bc": {1, 3, 6, 10, 15, 21}, "4 ba>ab ca>ac cb>bc da>ad db>bd dc>cd": {1, 4, 10, 20, 35, 56},
		"2 aa>a bb>b": {1, 2, 2, 2, 2, 2}, "3 aa>a bb>b cc>c": {1, 3, 6, 12, 24, 48}, "4 aa>a bb>b cc>c dd>d": {1, 4, 12, 36, 108, 324}, "2 ab>.": {1, 2, 3, 4, 5, 6}, "4 ab>. cd>.": {1, 4, 14, 48, 164, 560},
	}
	found := 0
	for _, c := range knownSystems() {
		if want, ok := growths[c.text]; ok {
			found++
			if got := impl.GrowthOf(c.made(t), 5); !slices.Equal(got, want) {
				t.Errorf("GrowthOf %s(%d) = %v, want %v", c.name, c.n, got, want)
			}
		}
	}
	if found != len(growths) {
		t.Errorf("only %d systems were there", found)
	}
}

func TestFormsOfKnownSystems(t *testing.T) {
	for _, c := range knownSystems() {
		checkForms(t, c.made(t), c.form)
	}
}

// TestMonoidsOfKnownSystems holds P3: only powers of one letter are finitely many.
func TestMonoidsOfKnownSystems(t *testing.T) {
	for _, c := range knownSystems() {
		s := c.made(t)
		if ok := checkMonoid(t, s); ok != (c.name == "CyclicSystem" || c.text == "1 aa>a") {
			t.Errorf("MonoidOf %s(%d) is %v", c.name, c.n, ok)
		}
		table, words, ok := impl.MonoidOf(s)
		if !ok {
			hasNoMonoid(t, s)
			continue
		}
		want := powersTable(0, c.n)
		if c.name == "ProjectorSystem" {
			want = powersTable(1, 1)
		}
		if !equalTables(table, want) || !slices.Equal(words, []string{"", "a", "aa", "aaa", "aaaa", "aaaaa", "aaaaaa", "aaaaaaa"}[:want.Size]) {
			t.Errorf("MonoidOf %s(%d) = %v, %q", c.name, c.n, table, words)
		}
		checkValues(t, s, wordsWith(s, 4))
	}
}

func TestTextsOfTableSystems(t *testing.T) {
	cases := []struct {
		table impl.Table
		text  string
	}{
		{powersTable(0, 2), "1 aa>."}, {powersTable(1, 1), "1 aa>a"},
		{powersTable(0, 3), "2 aa>b ab>. ba>. bb>a"}, {powersTable(2, 1), "2 aa>b ab>b ba>b bb>b"}, {powersTable(1, 2), "2 aa>b ab>a ba>a bb>b"}, {nullTable(3, 1), "2 aa>a ab>a ba>a bb>a"},
		// The order of the elements counts, of which the first one comes first.
		{firstTable(3), "2 aa>a ab>a ba>b bb>b"}, {turnedTable(firstTable(3)), "2 aa>a ab>b ba>a bb>b"}, {firstTable(4), "3 aa>a ab>a ac>a ba>b bb>b bc>b ca>c cb>c cc>c"}, {turnedTable(firstTable(4)), "3 aa>a ab>b ac>c ba>a bb>b bc>c ca>a cb>b cc>c"},
		{powersTable(0, 4), "3 aa>b ab>c ac>. ba>c bb>. bc>a ca>. cb>a cc>b"}, {pairsTable(powersTable(0, 2), powersTable(0, 2)), "3 aa>. ab>c ac>b ba>c bb>. bc>a ca>b cb>a cc>."}, {leastTable(4), "3 aa>a ab>a ac>a ba>a bb>b bc>b ca>a cb>b cc>c"}, {withZero(powersTable(0, 3)), "3 aa>b ab>. ac>c ba>. bb>a bc>c ca>c cb>c cc>c"}, {powersTable(3, 1), "3 aa>b ab>c ac>c ba>c bb>c bc>c ca>c cb>c cc>c"},
	}
	for _, c := range cases {
		s, ok := impl.TableSystem(c.table)
		if text := impl.FormatSystem(s); text != c.text || !ok || !equalSystems(s, parsed(t, c.text)) || tableText(c.table) != c.text {
			t.Errorf("TableSystem(%v) = %#v, %v, want %q", c.table, s, ok, c.text)
		}
	}
}

// hasNoSystem checks that no system is made of the table.
func hasNoSystem(t *testing.T, table impl.Table) {
	t.Helper()
	if s, ok := impl.TableSystem(table); !isZeroSystem(s) || ok {
		t.Errorf("TableSystem(%v) = %#v, %v", table, s, ok)
	}
}

func TestTablesWithoutSystem(t *testing.T) {
	hasNoSystem(t, tableOf(1, 0))
	for size := 5; size <= 40; size++ {
		for _, table := range []impl.Table{powersTable(0, size), powersTable(size-1, 1), firstTable(size), nullTable(size, 1)} {
			hasNoSystem(t, table)
		}
	}
	for _, table := range someTables() {
		if table.Size < 2 || table.Size > 4 {
			hasNoSystem(t, table)
		}
	}
	for _, table := range invalidTables() {
		hasNoSystem(t, table)
	}
}

// TestSystemsOfAllTables holds P5: the system of a table is complete, and its monoid is the table.
func TestSystemsOfAllTables(t *testing.T) {
	found := 0
	for _, table := range tablesUpTo(4) {
		if table.Size == 1 {
			continue
		}
		found++
		s, ok := impl.TableSystem(table)
		if text := impl.FormatSystem(s); text != tableText(table) || !ok {
			t.Fatalf("TableSystem(%v) = %q, %v, want %q", table, text, ok, tableText(table))
		}
		checkKnown(t, s)
		words := []string{"", "a", "b", "c"}[:table.Size]
		images := numbersFrom(1, table.Size-1)
		form := func(w string) string { return words[valueByHalves(table, images, w)] }
		checkGrowth(t, s, form, func(length int) int { return []int{1, table.Size - 1, 0}[min(length, 2)] })
		if longest, all := impl.LongestReduced(s), impl.CountAll(s); longest != 1 || all != table.Size {
			t.Fatalf("%#v has reduced words of at most %d letters, which are %d", s, longest, all)
		}
		if monoid, list, ok := impl.MonoidOf(s); !equalTables(monoid, table) || !slices.Equal(list, words) || !ok {
			t.Fatalf("MonoidOf(%#v) = %v, %q, %v, want %v", s, monoid, list, ok, table)
		}
		if found%9 == 0 || table.Size < 4 {
			checkForms(t, s, form)
			checkMonoid(t, s)
			checkValues(t, s, wordsWith(s, 3))
		}
		if !impl.SatisfiesRules(s, table, images) || !impl.IsFaithful(s, table, images) {
			t.Fatalf("the elements of %v as images of its letters satisfy the rules: %v, faithfully: %v", table, impl.SatisfiesRules(s, table, images), impl.IsFaithful(s, table, images))
		}
	}
	if found != 169 {
		t.Errorf("there are %d tables of 2 to 4 elements, want 169", found)
	}
}

// TestSystemsOfTablesThatAreChanged changes one product of each small table: there is a system only if the table is still valid.
func TestSystemsOfTablesThatAreChanged(t *testing.T) {
	valid, others := 0, 0
	for _, table := range tablesUpTo(4) {
		for place := range table.Product {
			for x := -1; x <= table.Size; x++ {
				other := changed(table, place/table.Size, place%table.Size, x)
				s, ok := impl.TableSystem(other)
				if want := table.Size > 1 && tableIsOk(other); ok != want || !ok && !isZeroSystem(s) {
					t.Fatalf("TableSystem(%v) = %#v, %v", other, s, ok)
				}
				if !ok {
					others++
				} else if valid++; impl.FormatSystem(s) != tableText(other) {
					t.Fatalf("TableSystem(%v) = %#v", other, s)
				}
				if turned, ok := impl.OppositeTable(other); ok != tableIsOk(other) || !ok && !isZeroTable(turned) {
					t.Fatalf("OppositeTable(%v) = %v, %v", other, turned, ok)
				}
				if same := impl.AreIsomorphic(other, other); same != tableIsOk(other) {
					t.Fatalf("%v is isomorphic to itself: %v", other, same)
				}
			}
		}
	}
	if valid < 2000 || others < 5000 {
		t.Errorf("%d changed tables are valid, %d are not", valid, others)
	}
}

func isZeroTable(table impl.Table) bool {
	return table.Size == 0 && len(table.Product) == 0
}

// checkIsomorphic asks in both directions.
func checkIsomorphic(t *testing.T, table, other impl.Table, want bool) {
	t.Helper()
	if there, back := impl.AreIsomorphic(table, other), impl.AreIsomorphic(other, table); there != want || back != want {
		t.Fatalf("AreIsomorphic of %v and %v is %v, and %v in the other order", table, other, there, back)
	}
}

func TestAreIsomorphic(t *testing.T) {
	six, four := mapsOf(t, 6, "102 021"), pairsTable(powersTable(0, 2), powersTable(0, 2))
	cases := []struct {
		table, other impl.Table
		want         bool
	}{
		{tableOf(1, 0), tableOf(1, 0), true}, {powersTable(0, 2), powersTable(0, 2), true}, {powersTable(0, 2), powersTable(1, 1), false}, {powersTable(0, 3), powersTable(0, 3), true}, {powersTable(0, 6), powersTable(0, 6), true}, {six, six, true},
		// By a renaming other than the identity.
		{powersTable(1, 2), renamed(powersTable(1, 2), []int{0, 2, 1}), true}, {leastTable(3), renamed(leastTable(3), []int{0, 2, 1}), true}, {leastTable(3), tableOf(3, 0, 1, 2, 1, 1, 2, 2, 2, 2), true}, {powersTable(0, 4), renamed(powersTable(0, 4), []int{0, 2, 1, 3}), true}, {powersTable(0, 4), renamed(powersTable(0, 4), []int{0, 3, 1, 2}), true}, {six, mapsOf(t, 6, "120 102"), true}, {six, turnsTable(3), true}, {six, linesTable(3, 2), true}, {powersTable(0, 6), pairsTable(powersTable(0, 2), powersTable(0, 3)), true}, {powersTable(0, 6), pairsTable(powersTable(0, 3), powersTable(0, 2)), true}, {nullTable(6, 1), nullTable(6, 5), true}, {changed(nullTable(6, 1), 5, 4, 3), changed(nullTable(6, 5), 1, 3, 2), true}, {six, turnedTable(six), true}, {withZero(four), renamed(withZero(four), []int{0, 4, 3, 2, 1}), true},
		// Of the same size, with as many idempotents and units.
		{powersTable(0, 4), four, false}, {firstTable(3), turnedTable(firstTable(3)), false}, {firstTable(6), turnedTable(firstTable(6)), false}, {powersTable(0, 6), six, false}, {withZero(powersTable(0, 4)), withZero(four), false}, {withZero(withZero(powersTable(0, 4))), withZero(withZero(four)), false}, {leastTable(3), firstTable(3), false}, {leastTable(6), turnedTable(firstTable(6)), false}, {powersTable(4, 1), nullTable(5, 1), false}, {nullTable(4, 1), changed(nullTable(4, 1), 2, 2, 3), false}, {changed(nullTable(6, 1), 5, 4, 3), changed(nullTable(6, 1), 5, 5, 3), false}, {changed(nullTable(6, 1), 5, 4, 3), changed(changed(nullTable(6, 1), 5, 4, 3), 4, 5, 3), false}, {powersTable(2, 2), withZero(powersTable(2, 1)), false}, {powersTable(2, 1), powersTable(1, 2), false},
		// Of the same size, with other numbers of idempotents or units.
		{powersTable(0, 6), powersTable(5, 1), false}, {powersTable(0, 3), leastTable(3), false}, {withZero(powersTable(0, 5)), powersTable(1, 5), false}, {nullTable(6, 3), leastTable(6), false},
		// Of different sizes.
		{tableOf(1, 0), powersTable(0, 2), false}, {powersTable(0, 2), powersTable(0, 3), false}, {firstTable(3), firstTable(4), false}, {six, powersTable(0, 3), false}, {powersTable(5, 1), powersTable(4, 1), false}, {powersTable(0, 6), powersTable(0, 7), false}, {tableOf(1, 0), powersTable(0, 40), false},
		// With more than 6 elements, whatever they are.
		{powersTable(0, 7), powersTable(0, 7), false}, {firstTable(7), firstTable(7), false}, {nullTable(7, 1), nullTable(7, 1), false}, {withZero(six), withZero(six), false}, {powersTable(0, 8), powersTable(0, 8), false}, {powersTable(0, 40), powersTable(0, 40), false}, {leastTable(40), leastTable(40), false},
		// Only a renaming of 0 would make them the same, and no table has another identity.
		{powersTable(0, 2), tableOf(2, 1, 0, 0, 1), false}, {powersTable(1, 1), tableOf(2, 0, 0, 0, 1), false}, {powersTable(0, 3), renamed(powersTable(0, 3), []int{1, 0, 2}), false}, {firstTable(3), renamed(firstTable(3), []int{2, 1, 0}), false}, {six, renamed(six, []int{5, 1, 2, 3, 4, 0}), false},
	}
	for _, c := range cases {
		if there, back := impl.AreIsomorphic(c.table, c.other), impl.AreIsomorphic(c.other, c.table); there != c.want || back != c.want {
			t.Errorf("AreIsomorphic of %v and %v is %v, and %v in the other order", c.table, c.other, there, back)
		}
	}
}

// TestRenamedTables takes all renamings of tables of at most 6 elements: those that keep 0 give isomorphic ones, and the others none that are valid.
func TestRenamedTables(t *testing.T) {
	tables := append(tablesUpTo(3), mapsOf(t, 6, "102 021"), powersTable(0, 6), firstTable(6), turnedTable(firstTable(5)), leastTable(6), leastTable(5), powersTable(3, 3), powersTable(5, 1), withZero(powersTable(0, 5)), withZero(withZero(powersTable(2, 2))), changed(nullTable(6, 5), 1, 2, 3), pairsTable(powersTable(0, 2), firstTable(3)), brandtTable(), bandTable(2, 2))
	for _, table := range tables {
		if table.Size > 6 {
			t.Fatalf("%v has more than 6 elements", table)
		}
		count := 0
		renamings(table.Size, false, func(names []int) {
			other := renamed(table, names)
			checkIsomorphic(t, table, other, names[0] == 0)
			if names[0] == 0 {
				count++
			} else if impl.AreIsomorphic(other, other) {
				t.Fatalf("%v, which is not valid, is isomorphic to itself", other)
			}
		})
		if want := []int{1, 1, 2, 6, 24, 120}[table.Size-1]; count != want {
			t.Fatalf("there are %d renamings of %d elements, want %d", count, table.Size, want)
		}
	}
	for _, table := range append(someTables(), allGroups(t)...) {
		checkIsomorphic(t, table, table, table.Size <= 6)
		checkIsomorphic(t, table, mixed(table), table.Size <= 6)
		checkIsomorphic(t, table, withZero(table), false)
	}
}

// TestKindsOfTables takes all pairs of small tables, and counts the kinds: as many monoids are known, and as many if the opposite of one is taken as the same.
func TestKindsOfTables(t *testing.T) {
	small := tablesUpTo(4)
	var leasts [][]int
	for _, table := range small {
		leasts = append(leasts, leastRenamed(table))
	}
	for i, table := range small {
		for k, other := range small {
			if got := impl.AreIsomorphic(table, other); got != slices.Equal(leasts[i], leasts[k]) {
				t.Fatalf("AreIsomorphic(%v, %v) is %v", table, other, got)
			}
		}
	}
	alike := 0
	for size, want := range map[int]struct{ tables, kinds, sides int }{1: {1, 1, 1}, 2: {2, 2, 2}, 3: {11, 7, 6}, 4: {156, 35, 27}, 5: {4122, 228, 156}} {
		tables := validTables(size)
		kinds := kindsOf(t, tables)
		var sides []impl.Table
		for i, table := range kinds {
			for _, other := range kinds[:i] {
				checkIsomorphic(t, table, other, false)
				if f, g := factsOf(table), factsOf(other); len(f.units) == len(g.units) && len(f.idempotents) == len(g.idempotents) && f.commutes == g.commutes {
					alike++
				}
			}
			opposite, ok := impl.OppositeTable(table)
			if !ok {
				t.Fatalf("OppositeTable(%v) fails", table)
			}
			if !slices.ContainsFunc(sides, func(other impl.Table) bool { return impl.AreIsomorphic(other, opposite) }) {
				sides = append(sides, table)
			}
		}
		if len(tables) != want.tables || len(kinds) != want.kinds || len(sides) != want.sides {
			t.Errorf("there are %d tables of %d elements, of %d kinds, and of %d up to opposites, want %v", len(tables), size, len(kinds), len(sides), want)
		}
	}
	if alike < 1000 {
		t.Errorf("only %d pairs of tables agree in their idempotents and units", alike)
	}
}

// TestDrawnTablesOfSixElements draws the same tables each time, and compares those of few elements.
func TestDrawnTablesOfSixElements(t *testing.T) {
	r := rand.New(rand.NewSource(19))
	var tables []impl.Table
	for len(tables) < 60 {
		if table := drawnTable(r); table.Size == 6 || table.Size == 5 && len(tables)%6 == 0 {
			tables = append(tables, table)
		}
	}
	same, others := 0, 0
	var leasts [][]int
	for _, table := range tables {
		leasts = append(leasts, leastRenamed(table))
	}
	for i, table := range tables {
		for k, other := range tables[:i] {
			want := slices.Equal(leasts[i], leasts[k])
			checkIsomorphic(t, table, other, want)
			if want {
				same++
			} else if table.Size == other.Size {
				others++
			}
		}
	}
	if same < 20 || others < 500 {
		t.Errorf("%d pairs of tables are isomorphic, %d others have the same size", same, others)
	}
}

// checkOpposite holds P3 and P4: the opposite of the opposite is the table, powers come back, and the sides of ideals change.
func checkOpposite(t *testing.T, table impl.Table) {
	t.Helper()
	opposite, ok := impl.OppositeTable(table)
	if !ok || !equalTables(opposite, turnedTable(table)) || !tableIsOk(opposite) {
		t.Fatalf("OppositeTable(%v) = %v, %v", table, opposite, ok)
	}
	if again, ok := impl.OppositeTable(opposite); !equalTables(again, table) || !ok {
		t.Fatalf("the opposite of the opposite of %v is %v, %v", table, again, ok)
	}
	f, g := factsOf(table), factsOf(opposite)
	if equalTables(opposite, table) != f.commutes || impl.IsCommutative(opposite) != f.commutes || impl.IsGroup(opposite) != f.group || f.zero != g.zero || !slices.Equal(f.units, g.units) || !slices.Equal(f.idempotents, g.idempotents) {
		t.Fatalf("%v has %v, and its opposite %v has %v", table, f, opposite, g)
	}
	for _, i := range elementsToTry(table.Size) {
		for _, k := range elementsToTry(table.Size) {
			product, ok := impl.ProductOf(opposite, i, k)
			if want, _ := impl.ProductOf(table, k, i); product != want || !ok {
				t.Fatalf("the product of %d and %d in the opposite of %v is %d, %v, want %d", i, k, table, product, ok, want)
			}
		}
		checkSamePowers(t, table, opposite, i)
		right, left := impl.IdealOf(opposite, i, impl.ClRight), impl.IdealOf(opposite, i, impl.ClLeft)
		if !slices.Equal(right, impl.IdealOf(table, i, impl.ClLeft)) || !slices.Equal(left, impl.IdealOf(table, i, impl.ClRight)) || !slices.Equal(impl.IdealOf(opposite, i, impl.ClBoth), impl.IdealOf(table, i, impl.ClBoth)) {
			t.Fatalf("%d has the ideals %v and %v in the opposite of %v", i, right, left, table)
		}
	}
	if f.group && table.Size <= 6 && !impl.AreIsomorphic(table, opposite) {
		t.Fatalf("the group %v is not isomorphic to its opposite", table)
	}
}

// checkSamePowers asks for powers of one element in two tables.
func checkSamePowers(t *testing.T, table, other impl.Table, i int) {
	t.Helper()
	m, p := impl.IndexPeriod(table, i)
	if otherM, otherP := impl.IndexPeriod(other, i); otherM != m || otherP != p || p < 1 {
		t.Fatalf("the powers of %d in %v come back from %d after %d, and in %v from %d after %d", i, table, m, p, other, otherM, otherP)
	}
	for _, n := range []int{0, 1, 2, 3, 16, m, m + p, 1000 - p, 1000} {
		first, ok := impl.PowerOf(table, i, n)
		second, otherOk := impl.PowerOf(other, i, n)
		if first != second || !ok || !otherOk {
			t.Fatalf("the power %d of %d in %v is %d, %v, and in %v %d, %v", n, i, table, first, ok, other, second, otherOk)
		}
		if later, ok := impl.PowerOf(other, i, n+p); ok && n >= m && later != second {
			t.Fatalf("the power %d of %d in %v is %d, and that of %d is %d", n, i, other, second, n+p, later)
		}
	}
}

func TestOppositeTable(t *testing.T) {
	cases := []struct{ table, want impl.Table }{
		{tableOf(1, 0), tableOf(1, 0)}, {tableOf(2, 0, 1, 1, 1), tableOf(2, 0, 1, 1, 1)}, {tableOf(3, 0, 1, 2, 1, 1, 1, 2, 2, 2), tableOf(3, 0, 1, 2, 1, 1, 2, 2, 1, 2)}, {tableOf(3, 0, 1, 2, 1, 1, 2, 2, 1, 2), tableOf(3, 0, 1, 2, 1, 1, 1, 2, 2, 2)},
		{changed(nullTable(5, 1), 4, 3, 2), changed(nullTable(5, 1), 3, 4, 2)}, {changed(nullTable(40, 1), 39, 38, 2), changed(nullTable(40, 1), 38, 39, 2)}, {powersTable(0, 40), powersTable(0, 40)}, {firstTable(40), turnedTable(firstTable(40))},
		{tableOf(6, 0, 1, 2, 3, 4, 5, 1, 0, 3, 2, 5, 4, 2, 4, 0, 5, 1, 3, 3, 5, 1, 4, 0, 2, 4, 2, 5, 0, 3, 1, 5, 3, 4, 1, 2, 0), tableOf(6, 0, 1, 2, 3, 4, 5, 1, 0, 4, 5, 2, 3, 2, 3, 0, 1, 5, 4, 3, 2, 5, 4, 0, 1, 4, 5, 1, 0, 3, 2, 5, 4, 3, 2, 1, 0)},
	}
	for _, c := range cases {
		if got, ok := impl.OppositeTable(c.table); !equalTables(got, c.want) || !ok {
			t.Errorf("OppositeTable(%v) = %v, %v, want %v", c.table, got, ok, c.want)
		}
	}
	others := 0
	for _, table := range slices.Concat(tablesUpTo(4), someTables(), allGroups(t)) {
		checkOpposite(t, table)
		if !impl.IsCommutative(table) {
			others++
		}
	}
	r := rand.New(rand.NewSource(20))
	for range 150 {
		table := drawnTable(r)
		checkOpposite(t, table)
	}
	if others < 60 {
		t.Errorf("only %d tables do not commute", others)
	}
}

// partsOf needs an element of a product of two tables, of which the second one has this size.
func partsOf(x, size int) (int, int) {
	first := 0
	for x >= size {
		first, x = first+1, x-size
	}
	return first, x
}

// checkProduct holds P3 and P4: products of tables, and powers in them, have both parts.
func checkProduct(t *testing.T, table, other impl.Table) {
	t.Helper()
	product, ok := impl.ProductTable(table, other)
	size := table.Size * other.Size
	if !ok || product.Size != size || len(product.Product) != size*size || !tableIsOk(product) || !equalTables(product, pairsTable(table, other)) {
		t.Fatalf("ProductTable(%v, %v) = %v, %v", table, other, product, ok)
	}
	for x := range size {
		i, k := partsOf(x, other.Size)
		for y := range size {
			j, l := partsOf(y, other.Size)
			first, second := partsOf(product.Product[x*size+y], other.Size)
			if first != table.Product[i*table.Size+j] || second != other.Product[k*other.Size+l] {
				t.Fatalf("in ProductTable(%v, %v), the product of %d and %d is %d", table, other, x, y, product.Product[x*size+y])
			}
		}
	}
	checkPartsOfPowers(t, table, other, product)
	f, g, h := factsOf(table), factsOf(other), factsOf(product)
	if h.commutes != (f.commutes && g.commutes) || impl.IsGroup(product) != (f.group && g.group) || len(impl.UnitsOf(product)) != len(f.units)*len(g.units) || len(impl.IdempotentsOf(product)) != len(f.idempotents)*len(g.idempotents) {
		t.Fatalf("%v and %v have %v and %v, and their product %v", table, other, f, g, h)
	}
}

// checkPartsOfPowers takes some elements of a product of two tables.
func checkPartsOfPowers(t *testing.T, table, other, product impl.Table) {
	t.Helper()
	for _, x := range elementsToTry(product.Size) {
		i, k := partsOf(x, other.Size)
		for _, n := range []int{0, 1, 2, 3, 7, 40, 1000} {
			first, _ := impl.PowerOf(table, i, n)
			second, _ := impl.PowerOf(other, k, n)
			if power, ok := impl.PowerOf(product, x, n); power != first*other.Size+second || !ok {
				t.Fatalf("in ProductTable(%v, %v), the power %d of %d is %d, %v, want %d and %d", table, other, n, x, power, ok, first, second)
			}
		}
		m, p := impl.IndexPeriod(table, i)
		otherM, otherP := impl.IndexPeriod(other, k)
		both := p
		for both%otherP != 0 {
			both += p
		}
		if gotM, gotP := impl.IndexPeriod(product, x); gotM != max(m, otherM) || gotP != both {
			t.Fatalf("in ProductTable(%v, %v), the powers of %d come back from %d after %d, want %d and %d", table, other, x, gotM, gotP, max(m, otherM), both)
		}
	}
}

func hasNoProductTable(t *testing.T, table, other impl.Table) {
	t.Helper()
	if product, ok := impl.ProductTable(table, other); !isZeroTable(product) || ok {
		t.Errorf("ProductTable(%v, %v) = %v, %v", table, other, product, ok)
	}
}

func TestProductTable(t *testing.T) {
	two, flat := powersTable(0, 2), powersTable(1, 1)
	cases := []struct{ table, other, want impl.Table }{
		{tableOf(1, 0), tableOf(1, 0), tableOf(1, 0)}, {two, tableOf(1, 0), two}, {tableOf(1, 0), two, two}, {two, two, tableOf(4, 0, 1, 2, 3, 1, 0, 3, 2, 2, 3, 0, 1, 3, 2, 1, 0)},
		// The order of the tables counts.
		{flat, two, tableOf(4, 0, 1, 2, 3, 1, 0, 3, 2, 2, 3, 2, 3, 3, 2, 3, 2)}, {two, flat, tableOf(4, 0, 1, 2, 3, 1, 1, 3, 3, 2, 3, 0, 1, 3, 3, 1, 1)},
		{two, powersTable(0, 3), tableOf(6, 0, 1, 2, 3, 4, 5, 1, 2, 0, 4, 5, 3, 2, 0, 1, 5, 3, 4, 3, 4, 5, 0, 1, 2, 4, 5, 3, 1, 2, 0, 5, 3, 4, 2, 0, 1)},
		{powersTable(0, 3), two, tableOf(6, 0, 1, 2, 3, 4, 5, 1, 0, 3, 2, 5, 4, 2, 3, 4, 5, 0, 1, 3, 2, 5, 4, 1, 0, 4, 5, 0, 1, 2, 3, 5, 4, 1, 0, 3, 2)},
		{flat, firstTable(3), tableOf(6, 0, 1, 2, 3, 4, 5, 1, 1, 1, 4, 4, 4, 2, 2, 2, 5, 5, 5, 3, 4, 5, 3, 4, 5, 4, 4, 4, 4, 4, 4, 5, 5, 5, 5, 5, 5)},
		{tableOf(1, 0), powersTable(0, 40), powersTable(0, 40)}, {firstTable(40), tableOf(1, 0), firstTable(40)},
	}
	for _, c := range cases {
		if got, ok := impl.ProductTable(c.table, c.other); !equalTables(got, c.want) || !ok {
			t.Errorf("ProductTable(%v, %v) = %v, %v, want %v", c.table, c.other, got, ok, c.want)
		}
		checkProduct(t, c.table, c.other)
	}
}

// TestSizesOfProductTables takes all pairs of sizes: the product has at most MaxElements elements.
func TestSizesOfProductTables(t *testing.T) {
	exact := 0
	for size := 1; size <= 40; size++ {
		for other := 1; other <= 40; other++ {
			first, second := firstTable(size), powersTable(0, other)
			if size*other > 40 {
				hasNoProductTable(t, first, second)
				hasNoProductTable(t, powersTable(size-1, 1), leastTable(other))
				continue
			}
			checkProduct(t, first, second)
			if size*other == 40 {
				exact++
				checkProduct(t, leastTable(size), mixed(firstTable(other)))
			}
		}
	}
	if exact != 8 {
		t.Errorf("%d products have 40 elements", exact)
	}
	for _, table := range append(someTables(), allGroups(t)...) {
		one := tableOf(1, 0)
		for _, c := range [][2]impl.Table{{table, one}, {one, table}} {
			if got, ok := impl.ProductTable(c[0], c[1]); !equalTables(got, table) || !ok {
				t.Errorf("ProductTable(%v, %v) = %v, %v", c[0], c[1], got, ok)
			}
		}
		if table.Size > 20 {
			hasNoProductTable(t, table, powersTable(0, 2))
			hasNoProductTable(t, powersTable(1, 1), table)
		}
		if table.Size > 6 {
			hasNoProductTable(t, table, table)
		}
	}
}

// TestProductsOfManyTables takes all pairs of small tables of each kind, drawn ones, and products of three.
func TestProductsOfManyTables(t *testing.T) {
	kinds := kindsOf(t, tablesUpTo(4))
	for i, table := range kinds {
		for k := i % 3; k < len(kinds); k += 3 {
			other := kinds[k]
			checkProduct(t, table, other)
			// Both orders have the same products, under other numbers.
			if product, _ := impl.ProductTable(table, other); product.Size <= 6 {
				turned, ok := impl.ProductTable(other, table)
				if !ok || !impl.AreIsomorphic(product, turned) {
					t.Fatalf("the products %v and %v of %v and %v are not isomorphic", product, turned, table, other)
				}
			}
			opposite, _ := impl.OppositeTable(table)
			otherOpposite, _ := impl.OppositeTable(other)
			product, _ := impl.ProductTable(opposite, otherOpposite)
			if want, _ := impl.OppositeTable(pairsTable(table, other)); !equalTables(product, want) {
				t.Fatalf("the product of the opposites of %v and %v is %v, want %v", table, other, product, want)
			}
		}
	}
	r := rand.New(rand.NewSource(21))
	found := 0
	for range 400 {
		table, other := drawnTable(r), drawnTable(r)
		if table.Size*other.Size > 40 {
			hasNoProductTable(t, table, other)
			continue
		}
		found++
		checkProduct(t, table, other)
		if third := kinds[r.Intn(len(kinds))]; table.Size*other.Size*third.Size <= 40 {
			first, _ := impl.ProductTable(pairsTable(table, other), third)
			if second, _ := impl.ProductTable(table, pairsTable(other, third)); !equalTables(first, second) {
				t.Fatalf("the products of %v, %v and %v are %v and %v", table, other, third, first, second)
			}
		}
	}
	if found < 40 {
		t.Errorf("only %d pairs of tables have a product", found)
	}
}

// TestTablesThatAreNone has tables that are not valid, as the first and as the second argument.
func TestTablesThatAreNone(t *testing.T) {
	valid := []impl.Table{tableOf(1, 0), powersTable(0, 2), powersTable(1, 1), powersTable(0, 3), firstTable(4), powersTable(0, 6), powersTable(0, 7), powersTable(0, 40)}
	invalid := invalidTables()
	for n, table := range invalid {
		hasNoSystem(t, table)
		if opposite, ok := impl.OppositeTable(table); !isZeroTable(opposite) || ok {
			t.Errorf("OppositeTable(%v) = %v, %v", table, opposite, ok)
		}
		for _, other := range append(valid, table, invalid[(n+7)%len(invalid)]) {
			checkIsomorphic(t, table, other, false)
			hasNoProductTable(t, table, other)
			hasNoProductTable(t, other, table)
		}
	}
}

// TestSmallTablesThatAreNone takes all products of two and of three numbers, with those around them.
func TestSmallTablesThatAreNone(t *testing.T) {
	check := func(table impl.Table) {
		ok := tableIsOk(table)
		if s, got := impl.TableSystem(table); got != (ok && table.Size > 1) || !got && !isZeroSystem(s) {
			t.Fatalf("TableSystem(%v) = %#v, %v", table, s, got)
		}
		if opposite, got := impl.OppositeTable(table); got != ok || !got && !isZeroTable(opposite) {
			t.Fatalf("OppositeTable(%v) = %v, %v", table, opposite, got)
		}
		checkIsomorphic(t, table, table, ok)
		if !ok {
			hasNoProductTable(t, table, powersTable(0, 2))
			hasNoProductTable(t, powersTable(1, 1), table)
		}
	}
	allTables(1, -2, 2, false, check)
	allTables(2, -1, 2, false, check)
	allTables(3, 0, 2, false, check)
	allTables(3, -1, 3, true, check)
}

// countKnownMaps counts the lists of images of a known system by what it says of its letters.
func countKnownMaps(c knownSystem, table impl.Table) int {
	product := func(i, k int) int { return table.Product[i*table.Size+k] }
	pairs := 0
	for i := range table.Size {
		for k := range table.Size {
			if product(i, k) == 0 {
				pairs++
			}
		}
	}
	count := 0
	switch c.name {
	case "CyclicSystem":
		for i := range table.Size {
			if valueByHalves(table, []int{i}, strings.Repeat("a", c.n)) == 0 {
				count++
			}
		}
	case "SortingSystem":
		listsOfNumbers(table.Size, c.n, func(list []int) {
			for _, i := range list {
				if slices.ContainsFunc(list, func(k int) bool { return product(i, k) != product(k, i) }) {
					return
				}
			}
			count++
		})
	case "ProjectorSystem":
		count = 1
		for range c.n {
			count *= len(factsOf(table).idempotents)
		}
	case "BracketSystem":
		count = 1
		for range c.n {
			count *= pairs
		}
	}
	return count
}

// TestMeaningsOfKnownSystems holds P4: images that satisfy the rules give equal words one value, and images that are all 0 always do.
func TestMeaningsOfKnownSystems(t *testing.T) {
	tables := []impl.Table{tableOf(1, 0), powersTable(0, 2), powersTable(1, 1), powersTable(2, 3), mapsOf(t, 6, "102 021"), firstTable(4), mixed(powersTable(2, 4)), brandtTable(), halvesTable(4), powersTable(0, 40), turnedTable(firstTable(16))}
	lists, tooMany := 0, 0
	for _, c := range knownSystems() {
		s := c.made(t)
		for n, table := range tables {
			if !impl.SatisfiesRules(s, table, make([]int, s.Letters)) {
				t.Fatalf("images that are all 0 do not satisfy %s(%d) in %v", c.name, c.n, table)
			}
			all := 1
			for range s.Letters {
				all *= table.Size
			}
			if all > 4096 {
				tooMany++
				hasNoMaps(t, s, table)
				continue
			}
			if got, want := checkMaps(t, s, table), countKnownMaps(c, table); got != want {
				t.Fatalf("%s(%d) has %d lists of images in %v, want %d", c.name, c.n, got, table, want)
			}
			words := wordsWith(s, 4)
			for k, images := range satisfying(s, table) {
				lists++
				if k > 30 {
					break
				}
				for i := (k + n) % 11; i < len(words); i += 11 {
					checkEqualWords(t, tableSystem{s, table, images}, words[i])
				}
			}
		}
	}
	if lists < 1000 || tooMany < 5 {
		t.Errorf("%d lists satisfy rules, and %d tables have too many", lists, tooMany)
	}
}

// TestMapsOfTables holds P4: the images of the system of a table are the maps of the table that keep its products.
func TestMapsOfTables(t *testing.T) {
	kinds := kindsOf(t, tablesUpTo(4))
	for i, table := range kinds {
		if table.Size == 1 {
			continue
		}
		s, _ := impl.TableSystem(table)
		for k := i % 2; k < len(kinds); k += 2 {
			other, count := kinds[k], 0
			listsOfNumbers(other.Size, table.Size-1, func(list []int) {
				images := append([]int{0}, list...)
				for place, product := range table.Product {
					if other.Product[images[place/table.Size]*other.Size+images[place%table.Size]] != images[product] {
						return
					}
				}
				count++
			})
			if got := checkMaps(t, s, other); got != count {
				t.Fatalf("the system of %v has %d lists of images in %v, want %d", table, got, other, count)
			}
		}
		// Isomorphic tables are faithful images of each other's systems.
		renamings(table.Size, true, func(names []int) {
			if other := renamed(table, names); !impl.IsFaithful(s, other, names[1:]) {
				t.Fatalf("the images %v of %v are not faithful in %v", names, table, other)
			}
		})
	}
}

// TestProductsOfSystems holds P5: the words of a product of tables have the values of both parts.
func TestProductsOfSystems(t *testing.T) {
	r := rand.New(rand.NewSource(22))
	kinds := kindsOf(t, tablesUpTo(4))
	for range 300 {
		table, other := kinds[r.Intn(len(kinds))], kinds[r.Intn(len(kinds))]
		product, _ := impl.ProductTable(table, other)
		var first, second, both []int
		for range 1 + r.Intn(4) {
			i, k := r.Intn(table.Size), r.Intn(other.Size)
			first, second, both = append(first, i), append(second, k), append(both, i*other.Size+k)
		}
		w := drawnWord(r, len(both), 16)
		i, ok := impl.ValueOf(table, first, w)
		k, otherOk := impl.ValueOf(other, second, w)
		if x, bothOk := impl.ValueOf(product, both, w); x != i*other.Size+k || !ok || !otherOk || !bothOk {
			t.Fatalf("%q has the values %d and %d in %v and %v, and %d in their product", w, i, k, table, other, x)
		}
		mirrored, _ := impl.OppositeTable(table)
		if x, ok := impl.ValueOf(mirrored, first, impl.MirrorWord(w)); x != i || !ok {
			t.Fatalf("%q has the value %d in %v, and in reverse order %d, %v in its opposite", w, i, table, x, ok)
		}
	}
}

// callKnown calls every function of chapter 14.
func callKnown(table, other impl.Table, n int) {
	impl.CyclicSystem(n)
	impl.SortingSystem(n)
	impl.ProjectorSystem(n)
	impl.BracketSystem(n)
	impl.TableSystem(table)
	impl.AreIsomorphic(table, other)
	impl.OppositeTable(table)
	impl.ProductTable(table, other)
	impl.ProductTable(other, table)
}

// TestKnownArgumentsAreKept holds chapter 1 against the functions of chapter 14.
func TestKnownArgumentsAreKept(t *testing.T) {
	tables := append(slices.Concat(someTables(), invalidTables()), tablesUpTo(3)...)
	others := []impl.Table{tableOf(1, 0), powersTable(0, 3), firstTable(4), mapsOf(t, 6, "102 021"), powersTable(0, 40), tableOf(2, 1, 0, 0, 1)}
	for n, table := range tables {
		for k, other := range append(others, mixed(withZero(powersTable(0, 3)))) {
			first, second := append(slices.Clone(table.Product), -7, -8, -9), append(slices.Clone(other.Product), -4, -5, -6)
			before, otherBefore := slices.Clone(first), slices.Clone(second)
			callKnown(tableOf(table.Size, first[:len(table.Product)]...), tableOf(other.Size, second[:len(other.Product)]...), n-k)
			if !slices.Equal(first, before) || !slices.Equal(second, otherBefore) {
				t.Fatalf("the products of %v became %v, or those of %v became %v", table, first, other, second)
			}
		}
		// One table as both arguments.
		whole := append(slices.Clone(table.Product), -7, -8, -9)
		before := slices.Clone(whole)
		same := tableOf(table.Size, whole[:len(table.Product)]...)
		callKnown(same, same, 3)
		if !slices.Equal(whole, before) {
			t.Fatalf("the products of %v became %v", table, whole)
		}
	}
}

// TestKnownSystemsAreNew changes the rules of the results, also behind their ends, and asks again.
func TestKnownSystemsAreNew(t *testing.T) {
	table := mixed(withZero(powersTable(0, 3)))
	kept := slices.Clone(table.Product)
	ask := []func() (impl.System, bool){func() (impl.System, bool) { return impl.TableSystem(table) }}
	for _, c := range knownSystems() {
		ask = append(ask, func() (impl.System, bool) { return c.make(c.n) })
	}
	for _, get := range ask {
		first, _ := get()
		second, _ := get()
		want := impl.FormatSystem(second)
		fill(first.Rules)
		_ = append(first.Rules, ruleOf("?", "?"))
		third, ok := get()
		if impl.FormatSystem(second) != want || impl.FormatSystem(third) != want || want == "" || !ok || !slices.Equal(table.Product, kept) {
			t.Errorf("a change of %#v changed %#v, %#v or %v", first, second, third, table)
		}
	}
}

// TestKnownTablesAreNew changes the products of the results, also behind their ends, and asks again.
func TestKnownTablesAreNew(t *testing.T) {
	table, other, one := mapsOf(t, 6, "102 021"), powersTable(2, 1), tableOf(1, 0)
	kept, otherKept := slices.Clone(table.Product), slices.Clone(other.Product)
	cases := map[string]func() (impl.Table, bool){
		"OppositeTable":                       func() (impl.Table, bool) { return impl.OppositeTable(table) },
		"OppositeTable of one that commutes":  func() (impl.Table, bool) { return impl.OppositeTable(other) },
		"ProductTable":                        func() (impl.Table, bool) { return impl.ProductTable(table, other) },
		"ProductTable of one with itself":     func() (impl.Table, bool) { return impl.ProductTable(other, other) },
		"ProductTable with one element":       func() (impl.Table, bool) { return impl.ProductTable(table, one) },
		"ProductTable with one element first": func() (impl.Table, bool) { return impl.ProductTable(one, table) },
		"ProductTable of one element":         func() (impl.Table, bool) { return impl.ProductTable(one, one) },
	}
	for name, get := range cases {
		first, _ := get()
		second, _ := get()
		want := slices.Clone(second.Product)
		fillNumbers(first.Product)
		third, ok := get()
		if !ok || len(want) == 0 || !slices.Equal(second.Product, want) || !slices.Equal(third.Product, want) || !slices.Equal(table.Product, kept) || !slices.Equal(other.Product, otherKept) || !slices.Equal(one.Product, []int{0}) {
			t.Errorf("a change of the result of %s changed %v, %v, %v, %v or %v", name, second, third, table, other, one)
		}
	}
}

// TestKnownSystemsAreTheSameEachTime asks several times at once, and with other arguments in between.
func TestKnownSystemsAreTheSameEachTime(t *testing.T) {
	systems, tables, invalid := knownSystems(), tablesUpTo(4), invalidTables()
	var wait sync.WaitGroup
	for n := range 8 {
		wait.Go(func() {
			for i, table := range tables {
				c := systems[(n+i)%len(systems)]
				if s, ok := c.make(c.n); impl.FormatSystem(s) != c.text || !ok {
					t.Errorf("%s(%d) = %#v, %v", c.name, c.n, s, ok)
				}
				if s, ok := impl.TableSystem(table); ok != (table.Size > 1) || ok && impl.FormatSystem(s) != tableText(table) {
					t.Errorf("TableSystem(%v) = %#v, %v", table, s, ok)
				}
				callKnown(table, invalid[(n*11+i)%len(invalid)], i)
				callKnown(invalid[(n*7+i)%len(invalid)], table, -i)
				other := mixed(table)
				if product, ok := impl.ProductTable(table, other); !ok || !equalTables(product, pairsTable(table, other)) || !impl.AreIsomorphic(table, other) {
					t.Errorf("ProductTable(%v, %v) = %v, %v", table, other, product, ok)
				}
			}
		})
	}
	wait.Wait()
}
