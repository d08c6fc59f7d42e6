package tests

import (
	"math"
	"math/rand"
	"slices"
	"strings"
	"sync"
	"testing"

	"loop.example/g03201/impl"
)

func tableOf(size int, product ...int) impl.Table {
	return impl.Table{Size: size, Product: product}
}

// tableBy has the products that times gives.
func tableBy(size int, times func(i, k int) int) impl.Table {
	t := tableOf(size)
	for i := range size {
		for k := range size {
			t.Product = append(t.Product, times(i, k))
		}
	}
	return t
}

func equalTables(t, u impl.Table) bool {
	return t.Size == u.Size && slices.Equal(t.Product, u.Product)
}

// changed is the table with another product of i and k.
func changed(t impl.Table, i, k, product int) impl.Table {
	u := tableOf(t.Size, slices.Clone(t.Product)...)
	u.Product[i*t.Size+k] = product
	return u
}

// turnedTable has the product of k and i for that of i and k.
func turnedTable(t impl.Table) impl.Table {
	return tableBy(t.Size, func(i, k int) int { return t.Product[k*t.Size+i] })
}

// renamed is the table in which the element i has the number names[i].
func renamed(t impl.Table, names []int) impl.Table {
	u := tableOf(t.Size, slices.Clone(t.Product)...)
	for i := range t.Size {
		for k := range t.Size {
			u.Product[names[i]*t.Size+names[k]] = names[t.Product[i*t.Size+k]]
		}
	}
	return u
}

// powersTable has the powers of the element 1, of which that of m + p is that of m again.
func powersTable(m, p int) impl.Table {
	return tableBy(m+p, func(i, k int) int {
		if i+k < m {
			return i + k
		}
		return m + (i+k-m)%p
	})
}

// firstTable has i as the product of i and k, unless i is 0: each element is a zero from the left, and none from the right.
func firstTable(size int) impl.Table {
	return tableBy(size, func(i, k int) int {
		if i == 0 {
			return k
		}
		return i
	})
}

// nullTable has the zero z as the product of any elements, unless one is 0.
func nullTable(size, z int) impl.Table {
	return tableBy(size, func(i, k int) int {
		if i == 0 || k == 0 {
			return i + k
		}
		return z
	})
}

// leastTable has the less of two elements as their product, but for 0, which stands behind all: the zero is 1.
func leastTable(size int) impl.Table {
	return tableBy(size, func(i, k int) int {
		if i == 0 || k == 0 {
			return i + k
		}
		return min(i, k)
	})
}

// pairsTable has the pairs of elements of both tables.
func pairsTable(t, u impl.Table) impl.Table {
	return tableBy(t.Size*u.Size, func(i, k int) int {
		return t.Product[i/u.Size*t.Size+k/u.Size]*u.Size + u.Product[i%u.Size*u.Size+k%u.Size]
	})
}

// withZero has a further element, the zero.
func withZero(t impl.Table) impl.Table {
	return tableBy(t.Size+1, func(i, k int) int {
		if i == t.Size || k == t.Size {
			return t.Size
		}
		return t.Product[i*t.Size+k]
	})
}

// moved goes through both maps of points, one after the other.
func moved(f, g string) string {
	points := make([]byte, len(f))
	for i := range points {
		points[i] = g[f[i]-'0']
	}
	return string(points)
}

// mapsTable has the maps of points that some maps give; it fails if they are more than most.
func mapsTable(maps []string, most int) (impl.Table, bool) {
	elements := []string{"0123456789"[:len(maps[0])]}
	for i := 0; i < len(elements); i++ {
		for _, f := range maps {
			if g := moved(elements[i], f); !slices.Contains(elements, g) {
				elements = append(elements, g)
			}
		}
		if len(elements) > most {
			return impl.Table{}, false
		}
	}
	return tableBy(len(elements), func(i, k int) int {
		return slices.Index(elements, moved(elements[i], elements[k]))
	}), true
}

// drawnTable has the maps that one to three drawn maps of a few points give, under drawn numbers.
func drawnTable(r *rand.Rand) impl.Table {
	for {
		points := 1 + r.Intn(5)
		var maps []string
		for range 1 + r.Intn(3) {
			f := make([]byte, points)
			for i := range f {
				f[i] = byte('0' + r.Intn(points))
			}
			maps = append(maps, string(f))
		}
		if t, ok := mapsTable(maps, impl.MaxElements); ok {
			names := r.Perm(t.Size - 1)
			for i := range names {
				names[i]++
			}
			return renamed(t, append([]int{0}, names...))
		}
	}
}

// countOpenTriples is the number of triples whose product depends on brackets.
func countOpenTriples(t impl.Table) int {
	n := 0
	for i := range t.Size {
		for k := range t.Size {
			for x := range t.Size {
				first, second := t.Product[i*t.Size+k], t.Product[k*t.Size+x]
				if t.Product[first*t.Size+x] != t.Product[i*t.Size+second] {
					n++
				}
			}
		}
	}
	return n
}

// tableIsOk asks for each condition by itself, the products first.
func tableIsOk(t impl.Table) bool {
	if t.Size < 1 || t.Size > 40 || len(t.Product) != t.Size*t.Size {
		return false
	}
	for _, x := range t.Product {
		if x < 0 || x >= t.Size {
			return false
		}
	}
	for i := range t.Size {
		if t.Product[i] != i || t.Product[i*t.Size] != i {
			return false
		}
	}
	return countOpenTriples(t) == 0
}

// someTables are valid tables of many kinds and sizes.
func someTables() []impl.Table {
	six, _ := mapsTable([]string{"102", "021"}, 40)
	maps, _ := mapsTable([]string{"102", "120", "001"}, 40)
	return []impl.Table{
		tableOf(1, 0), powersTable(0, 2), powersTable(1, 1), tableOf(3, 0, 1, 2, 1, 1, 1, 2, 2, 2), powersTable(0, 3), powersTable(2, 2), powersTable(7, 1),
		powersTable(0, 39), powersTable(0, 40), powersTable(39, 1), powersTable(20, 20), powersTable(1, 39), six, maps,
		firstTable(3), turnedTable(firstTable(3)), firstTable(40), turnedTable(firstTable(40)), firstTable(2), leastTable(5), leastTable(40), nullTable(40, 39), nullTable(3, 1),
		pairsTable(powersTable(0, 2), powersTable(0, 2)), pairsTable(powersTable(0, 4), powersTable(0, 10)), pairsTable(powersTable(0, 2), firstTable(4)), pairsTable(six, powersTable(0, 6)),
		withZero(powersTable(0, 5)), withZero(six), withZero(firstTable(4)), withZero(withZero(powersTable(3, 1))), withZero(powersTable(0, 39)),
		renamed(withZero(powersTable(0, 4)), []int{0, 4, 1, 3, 2}), renamed(powersTable(5, 3), []int{0, 7, 6, 5, 4, 3, 2, 1}),
	}
}

// oneTriple has the zero z as the product of any elements but a and b, which give c, and c and d, which give e.
// Then the product of a, b and d is e with brackets around the first two, and z otherwise.
func oneTriple(size, z, a, b, c, d, e int) impl.Table {
	return changed(changed(nullTable(size, z), a, b, c), c, d, e)
}

// invalidTables are tables for which TableOk is false, each for a reason of its own.
func invalidTables() []impl.Table {
	three := powersTable(0, 3)
	list := []impl.Table{
		// Size of 0, one more than MaxElements and negative ones, with as many products as there would be.
		{}, tableOf(0, 0), powersTable(0, 41), powersTable(40, 1), leastTable(41), powersTable(0, 100), tableOf(-1, 0), tableOf(-1), tableOf(-2, 0, 1, 1, 0), tableOf(-3, three.Product...),
		// Sizes whose square is no int: it would wrap around to 0 and to 1.
		tableOf(1 << 32), tableOf(-1 << 32), tableOf(1<<32, 0), tableOf(math.MinInt), tableOf(math.MinInt, 0), tableOf(math.MaxInt, 0), tableOf(-math.MaxInt, 0), tableOf(math.MaxInt), tableOf(1<<63-2, 0, 1, 1, 0),
		// Too few and too many products.
		tableOf(1), tableOf(2), tableOf(3, three.Product[:8]...), tableOf(3, append(slices.Clone(three.Product), 0)...), tableOf(1, 0, 0), tableOf(2, three.Product...), tableOf(3, 0, 1, 1, 0), tableOf(40, three.Product...),
		tableOf(40, powersTable(0, 40).Product[:1599]...), tableOf(40, powersTable(0, 41).Product...), tableOf(39, powersTable(0, 40).Product...),
		// 0 is the identity from one side only, or from none.
		tableOf(2, 0, 1, 0, 1), tableOf(2, 0, 0, 1, 1), tableOf(3, 0, 1, 2, 0, 1, 2, 0, 1, 2), tableOf(3, 0, 0, 0, 1, 1, 1, 2, 2, 2), tableOf(2, 1, 0, 0, 1), tableOf(2, 0, 0, 0, 0), tableOf(2, 1, 1, 1, 1), tableOf(3, 2, 0, 1, 0, 1, 2, 1, 2, 0),
		tableBy(40, func(i, k int) int { return i }), tableBy(40, func(i, k int) int { return k }), changed(nullTable(40, 1), 0, 39, 1), changed(nullTable(40, 1), 39, 0, 1),
		// Brackets count.
		tableOf(3, 0, 1, 2, 1, 2, 1, 2, 2, 2), tableOf(3, 0, 1, 2, 1, 0, 1, 2, 1, 1), oneTriple(5, 1, 2, 2, 3, 2, 4), oneTriple(6, 5, 1, 1, 2, 1, 4), oneTriple(40, 1, 39, 39, 38, 39, 37), oneTriple(40, 39, 1, 1, 2, 1, 3),
	}
	// A product that is no element, at each place.
	for i := range 3 {
		for k := range 3 {
			list = append(list, changed(three, i, k, 3), changed(three, i, k, -1))
		}
	}
	for _, x := range []int{-40, -1, 2, 4, 40, math.MaxInt, math.MinInt, 1 << 32, 1 << 62} {
		list = append(list, tableOf(1, x), changed(powersTable(1, 1), 1, 1, x))
	}
	return append(list, tableOf(1, 1), changed(nullTable(40, 1), 39, 39, 40), changed(nullTable(40, 1), 39, 39, -1))
}

// numbersAround are numbers that are elements of a table of this size, and others; times the size, the great ones would wrap around to small ones.
func numbersAround(size int) []int {
	list := []int{-1, 0, 1, size - 1, size, size + 1, -size, size * 2, size * size, 1 << 32, -1 << 32, 1 << 61, 1 << 62, -1 << 62, math.MaxInt, math.MinInt, math.MinInt + 1}
	if size > 2 {
		// Times the size, these are hardly more than 2^64, and hardly above -2^64.
		wide := int(math.MaxUint64 / uint64(size))
		list = append(list, wide+1, -wide)
	}
	return list
}

// hasNoTable checks that no function of chapter 9 takes the table.
func hasNoTable(t *testing.T, table impl.Table) {
	t.Helper()
	if impl.TableOk(table) || impl.IsCommutative(table) || impl.IsGroup(table) {
		t.Errorf("%v is valid: %v, commutative: %v, a group: %v", table, impl.TableOk(table), impl.IsCommutative(table), impl.IsGroup(table))
	}
	if list, units := impl.IdempotentsOf(table), impl.UnitsOf(table); len(list) != 0 || len(units) != 0 {
		t.Errorf("%v has the idempotents %v and the units %v", table, list, units)
	}
	if z := impl.ZeroOf(table); z != -1 {
		t.Errorf("ZeroOf(%v) = %d", table, z)
	}
	for _, i := range append(numbersAround(table.Size), 2, 3) {
		hasNoElement(t, table, i)
		hasNoProduct(t, table, 0, i)
	}
}

func hasNoProduct(t *testing.T, table impl.Table, i, k int) {
	t.Helper()
	if x, ok := impl.ProductOf(table, i, k); x != 0 || ok {
		t.Errorf("ProductOf(%v, %d, %d) = %d, %v", table, i, k, x, ok)
	}
}

// hasNoElement checks that no function takes i as an element of the table.
func hasNoElement(t *testing.T, table impl.Table, i int) {
	t.Helper()
	for _, k := range numbersAround(table.Size) {
		hasNoProduct(t, table, i, k)
	}
	for _, n := range []int{0, 1, 2, 1000, -1, 1001} {
		if x, ok := impl.PowerOf(table, i, n); x != 0 || ok {
			t.Errorf("PowerOf(%v, %d, %d) = %d, %v", table, i, n, x, ok)
		}
	}
	if m, p := impl.IndexPeriod(table, i); m != 0 || p != 0 {
		t.Errorf("IndexPeriod(%v, %d) = %d, %d", table, i, m, p)
	}
}

// checkPowers holds the powers of an element against products, made from the other side.
func checkPowers(t *testing.T, table impl.Table, i int) {
	t.Helper()
	powers := []int{0}
	for n := 1; n <= 1000; n++ {
		powers = append(powers, table.Product[i*table.Size+powers[n-1]])
	}
	for _, n := range []int{0, 1, 2, 3, 7, table.Size - 1, table.Size, table.Size + 1, 999, 1000} {
		if x, ok := impl.PowerOf(table, i, n); x != powers[n] || !ok {
			t.Fatalf("PowerOf(%v, %d, %d) = %d, %v, want %d", table, i, n, x, ok, powers[n])
		}
	}
	for _, n := range []int{-1, 1001, -1000, 1 << 32, math.MaxInt, math.MinInt} {
		if x, ok := impl.PowerOf(table, i, n); x != 0 || ok {
			t.Fatalf("PowerOf(%v, %d, %d) = %d, %v", table, i, n, x, ok)
		}
	}
	m, p := firstReturn(powers)
	if gotM, gotP := impl.IndexPeriod(table, i); gotM != m || gotP != p {
		t.Fatalf("IndexPeriod(%v, %d) = %d, %d, want %d, %d", table, i, gotM, gotP, m, p)
	}
}

// firstReturn tries the least m first, and for each one all p: some power comes back among the first 41.
func firstReturn(powers []int) (int, int) {
	for m := range 41 {
		for p := 1; p <= 40; p++ {
			if powers[m] == powers[m+p] {
				return m, p
			}
		}
	}
	return 0, 0
}

// isFull reports whether each element is in the list.
func isFull(size int, list []int) bool {
	for i := range size {
		if !slices.Contains(list, i) {
			return false
		}
	}
	return true
}

// facts are what the functions about a whole table must say.
type facts struct {
	commutes, group    bool
	idempotents, units []int
	zero               int
}

// factsOf goes by rows and columns: an element with all elements in both has a product 0 on both sides, and equal rows and columns commute.
func factsOf(table impl.Table) facts {
	f := facts{commutes: true, group: true, zero: -1}
	turned := turnedTable(table)
	for i := range table.Size {
		row, column := table.Product[i*table.Size:(i+1)*table.Size], turned.Product[i*table.Size:(i+1)*table.Size]
		f.commutes = f.commutes && slices.Equal(row, column)
		if row[i] == i {
			f.idempotents = append(f.idempotents, i)
		}
		if isFull(table.Size, row) && isFull(table.Size, column) {
			f.units = append(f.units, i)
		} else {
			f.group = false
		}
		if same := slices.Repeat([]int{i}, table.Size); slices.Equal(row, same) && slices.Equal(column, same) {
			f.zero = i
		}
	}
	return f
}

// checkTable holds the functions of chapter 9 against a valid table.
func checkTable(t *testing.T, table impl.Table) {
	t.Helper()
	if !impl.TableOk(table) {
		t.Fatalf("%v is not valid", table)
	}
	want := factsOf(table)
	if commutes, group := impl.IsCommutative(table), impl.IsGroup(table); commutes != want.commutes || group != want.group {
		t.Fatalf("%v is commutative: %v, a group: %v, want %v", table, commutes, group, want)
	}
	if list, units := impl.IdempotentsOf(table), impl.UnitsOf(table); !slices.Equal(list, want.idempotents) || !slices.Equal(units, want.units) {
		t.Fatalf("%v has the idempotents %v and the units %v, want %v", table, list, units, want)
	}
	if z := impl.ZeroOf(table); z != want.zero {
		t.Fatalf("ZeroOf(%v) = %d, want %d", table, z, want.zero)
	}
	for i := range table.Size {
		checkPowers(t, table, i)
		// All products of small tables, and one row and one column of great ones.
		for k := range table.Size {
			if table.Size > 6 && i != 3 && k != table.Size-1 {
				continue
			}
			if x, ok := impl.ProductOf(table, i, k); x != table.Product[i*table.Size+k] || !ok {
				t.Fatalf("ProductOf(%v, %d, %d) = %d, %v", table, i, k, x, ok)
			}
		}
	}
}

func TestMonoidConstants(t *testing.T) {
	if impl.MaxElements != 40 {
		t.Errorf("MaxElements is %d", impl.MaxElements)
	}
}

func TestTableOk(t *testing.T) {
	for _, table := range invalidTables() {
		if tableIsOk(table) {
			t.Fatalf("%v should not be valid", table)
		}
		hasNoTable(t, table)
	}
	for _, table := range someTables() {
		if !tableIsOk(table) {
			t.Fatalf("%v should be valid", table)
		}
		checkTable(t, table)
	}
	for size := 1; size <= 42; size++ {
		for _, table := range []impl.Table{powersTable(0, size), powersTable(size-1, 1), firstTable(size), leastTable(size)} {
			if impl.TableOk(table) != (size <= 40) {
				t.Errorf("TableOk(%v) is %v", table, size > 40)
			}
			more := tableOf(size, append(slices.Clone(table.Product), 0)...)
			if fewer := tableOf(size, table.Product[:size*size-1]...); impl.TableOk(more) || impl.TableOk(fewer) {
				t.Errorf("%v or %v is valid", more, fewer)
			}
		}
	}
}

// TestProductsThatAreNoElements puts other numbers in each place of a valid table.
func TestProductsThatAreNoElements(t *testing.T) {
	for _, table := range []impl.Table{powersTable(0, 1), powersTable(1, 1), powersTable(0, 4), leastTable(5), nullTable(6, 3)} {
		for i := range table.Size {
			for k := range table.Size {
				for _, x := range []int{-1, table.Size, table.Size + 1, -table.Size, 40, 1 << 32, 1 << 63 / 4, math.MaxInt, math.MinInt} {
					if impl.TableOk(changed(table, i, k, x)) {
						t.Errorf("%v is valid", changed(table, i, k, x))
					}
				}
			}
		}
	}
}

// TestEachTripleCounts takes tables in which brackets count for one triple alone.
func TestEachTripleCounts(t *testing.T) {
	const size = 7
	found := map[[3]int]bool{}
	for n := range 1 << 18 {
		z, a, b, c, d, e := n&7, n>>3&7, n>>6&7, n>>9&7, n>>12&7, n>>15
		if max(z, a, b, c, d, e) >= size || min(z, a, b, c, d, e) < 1 {
			continue
		}
		table := oneTriple(size, z, a, b, c, d, e)
		if countOpenTriples(table) != 1 {
			continue
		}
		found[[3]int{a, b, d}] = true
		if impl.TableOk(table) {
			t.Fatalf("%v is valid", table)
		}
		if other := oneTriple(size, z, a, b, c, d, z); impl.TableOk(other) != tableIsOk(other) {
			t.Fatalf("TableOk(%v) is %v", other, impl.TableOk(other))
		}
	}
	// Each triple of other elements than 0: with c, e and z, three different ones need a table of this size.
	for a := 1; a < size; a++ {
		for b := 1; b < size; b++ {
			for d := 1; d < size; d++ {
				if !found[[3]int{a, b, d}] {
					t.Errorf("no table for the triple %d, %d, %d", a, b, d)
				}
			}
		}
	}
	for _, x := range [][6]int{{1, 39, 39, 38, 39, 37}, {39, 1, 1, 2, 1, 3}, {20, 39, 1, 2, 39, 3}, {2, 1, 39, 38, 1, 37}, {5, 38, 20, 30, 39, 31}, {39, 37, 38, 36, 1, 35}} {
		table := oneTriple(40, x[0], x[1], x[2], x[3], x[4], x[5])
		if n := countOpenTriples(table); n != 1 || impl.TableOk(table) {
			t.Errorf("with %d triples, TableOk is %v for %v", n, impl.TableOk(table), x)
		}
		if closed := oneTriple(40, x[0], x[1], x[2], x[3], x[4], x[0]); !impl.TableOk(closed) {
			t.Errorf("%v is not valid", closed)
		}
	}
}

// allTables calls f with all tables of a size, with products from least to most; the first row and column are the identity's if fixed is set.
func allTables(size, least, most int, fixed bool, f func(table impl.Table)) {
	table := nullTable(size, 0)
	var fill func(place int)
	fill = func(place int) {
		switch {
		case place == size*size:
			f(tableOf(size, slices.Clone(table.Product)...))
		case fixed && (place < size || place%size == 0):
			fill(place + 1)
		default:
			for x := least; x <= most; x++ {
				table.Product[place] = x
				fill(place + 1)
			}
		}
	}
	fill(0)
}

// TestSmallTables counts the valid ones: as many monoids with numbered elements, of which 0 is the identity, are known.
func TestSmallTables(t *testing.T) {
	for size, want := range map[int]struct{ monoids, groups int }{1: {1, 1}, 2: {2, 1}, 3: {11, 1}, 4: {156, 4}} {
		monoids, groups := 0, 0
		allTables(size, 0, size-1, true, func(table impl.Table) {
			ok := tableIsOk(table)
			if impl.TableOk(table) != ok {
				t.Fatalf("TableOk(%v) is %v", table, !ok)
			}
			if !ok {
				return
			}
			checkTable(t, table)
			monoids++
			if impl.IsGroup(table) {
				groups++
			}
		})
		if monoids != want.monoids || groups != want.groups {
			t.Errorf("%d tables of %d elements are valid, %d are groups, want %v", monoids, size, groups, want)
		}
	}
}

func TestSmallTablesWithAnyProducts(t *testing.T) {
	check := func(table impl.Table) {
		if ok := tableIsOk(table); impl.TableOk(table) != ok {
			t.Fatalf("TableOk(%v) is %v", table, !ok)
		} else if !ok {
			hasNoTable(t, table)
		}
	}
	allTables(1, -2, 2, false, check)
	allTables(2, -1, 2, false, check)
	allTables(3, 0, 2, false, func(table impl.Table) {
		if ok := tableIsOk(table); impl.TableOk(table) != ok {
			t.Fatalf("TableOk(%v) is %v", table, !ok)
		}
	})
}

// TestDrawnTables draws the same tables each time, and changes a product of each.
func TestDrawnTables(t *testing.T) {
	r := rand.New(rand.NewSource(9))
	var groups, commute, zeros, great, stillOk int
	for range 600 {
		table := drawnTable(r)
		checkTable(t, table)
		f := factsOf(table)
		if f.group {
			groups++
		}
		if f.commutes {
			commute++
		}
		if f.zero >= 0 {
			zeros++
		}
		if table.Size > 10 {
			great++
		}
		for range 5 {
			other := changed(table, r.Intn(table.Size), r.Intn(table.Size), r.Intn(table.Size))
			ok := tableIsOk(other)
			if impl.TableOk(other) != ok {
				t.Fatalf("TableOk(%v) is %v", other, !ok)
			}
			if ok && !equalTables(other, table) {
				stillOk++
			}
		}
	}
	if groups < 20 || commute < 20 || zeros < 20 || great < 50 {
		t.Errorf("%d groups, %d commute, %d with a zero, %d great ones, %d changed ones", groups, commute, zeros, great, stillOk)
	}
}

func TestProductOf(t *testing.T) {
	for _, table := range someTables() {
		n := table.Size
		for _, i := range []int{0, n / 2, n - 1} {
			for _, k := range []int{0, n / 2, n - 1} {
				if x, ok := impl.ProductOf(table, i, k); x != table.Product[i*n+k] || !ok {
					t.Errorf("ProductOf(%v, %d, %d) = %d, %v", table, i, k, x, ok)
				}
			}
			for _, k := range numbersAround(n) {
				if k < 0 || k >= n {
					hasNoProduct(t, table, i, k)
				}
			}
		}
		for _, i := range numbersAround(n) {
			if i < 0 || i >= n {
				hasNoElement(t, table, i)
			}
		}
	}
	// The order counts.
	for _, c := range []struct{ i, k, want int }{{1, 2, 1}, {2, 1, 2}, {0, 2, 2}, {2, 0, 2}, {2, 2, 2}} {
		if x, ok := impl.ProductOf(firstTable(3), c.i, c.k); x != c.want || !ok {
			t.Errorf("ProductOf(%v, %d, %d) = %d, %v, want %d", firstTable(3), c.i, c.k, x, ok, c.want)
		}
	}
}

func TestPowersAndTheirReturn(t *testing.T) {
	cases := []struct {
		table      impl.Table
		i, n, want int
		m, p       int
	}{
		// The identity, also of the table with one element.
		{tableOf(1, 0), 0, 0, 0, 0, 1}, {tableOf(1, 0), 0, 1, 0, 0, 1}, {tableOf(1, 0), 0, 1000, 0, 0, 1}, {powersTable(0, 40), 0, 1000, 0, 0, 1},
		// An idempotent: the product of no elements is 0.
		{powersTable(1, 1), 1, 0, 0, 1, 1}, {powersTable(1, 1), 1, 1, 1, 1, 1}, {powersTable(1, 1), 1, 1000, 1, 1, 1}, {leastTable(40), 39, 1000, 39, 1, 1}, {firstTable(5), 3, 2, 3, 1, 1},
		// Elements of groups.
		{powersTable(0, 2), 1, 999, 1, 0, 2}, {powersTable(0, 2), 1, 1000, 0, 0, 2}, {powersTable(0, 40), 1, 39, 39, 0, 40}, {powersTable(0, 40), 1, 1000, 0, 0, 40}, {powersTable(0, 40), 39, 999, 1, 0, 40},
		{powersTable(0, 40), 8, 7, 16, 0, 5}, {powersTable(0, 39), 1, 1000, 25, 0, 39}, {pairsTable(powersTable(0, 4), powersTable(0, 10)), 11, 19, 39, 0, 20}, {withZero(powersTable(0, 5)), 2, 4, 3, 0, 5},
		// Powers that come back late.
		{powersTable(39, 1), 1, 38, 38, 39, 1}, {powersTable(39, 1), 1, 39, 39, 39, 1}, {powersTable(39, 1), 1, 1000, 39, 39, 1}, {powersTable(39, 1), 2, 19, 38, 20, 1}, {powersTable(39, 1), 39, 1, 39, 1, 1},
		{powersTable(20, 20), 1, 40, 20, 20, 20}, {powersTable(20, 20), 1, 1000, 20, 20, 20}, {powersTable(1, 39), 1, 40, 1, 1, 39}, {powersTable(38, 2), 1, 1000, 38, 38, 2}, {powersTable(38, 2), 3, 13, 39, 13, 2}, {powersTable(2, 2), 1, 5, 3, 2, 2},
	}
	for _, c := range cases {
		if x, ok := impl.PowerOf(c.table, c.i, c.n); x != c.want || !ok {
			t.Errorf("PowerOf(%v, %d, %d) = %d, %v, want %d", c.table, c.i, c.n, x, ok, c.want)
		}
		if m, p := impl.IndexPeriod(c.table, c.i); m != c.m || p != c.p {
			t.Errorf("IndexPeriod(%v, %d) = %d, %d, want %d, %d", c.table, c.i, m, p, c.m, c.p)
		}
		checkPowers(t, c.table, c.i)
	}
	for m := range 40 {
		for p := 1; m+p <= 40; p++ {
			// The powers of the identity alone are none of 1.
			if m+p == 1 {
				continue
			}
			if gotM, gotP := impl.IndexPeriod(powersTable(m, p), 1); gotM != m || gotP != p {
				t.Errorf("IndexPeriod of the powers that return from %d after %d is %d, %d", m, p, gotM, gotP)
			}
		}
	}
}

func TestFactsOfTables(t *testing.T) {
	six, _ := mapsTable([]string{"102", "021"}, 40)
	maps, _ := mapsTable([]string{"102", "120", "001"}, 40)
	if six.Size != 6 || maps.Size != 27 {
		t.Fatalf("%d permutations and %d maps of three points", six.Size, maps.Size)
	}
	cases := []struct {
		table impl.Table
		want  facts
	}{
		{tableOf(1, 0), facts{true, true, []int{0}, []int{0}, 0}},
		{powersTable(0, 2), facts{true, true, []int{0}, []int{0, 1}, -1}},
		{powersTable(0, 3), facts{true, true, []int{0}, []int{0, 1, 2}, -1}},
		{pairsTable(powersTable(0, 2), powersTable(0, 2)), facts{true, true, []int{0}, []int{0, 1, 2, 3}, -1}},
		{six, facts{false, true, []int{0}, []int{0, 1, 2, 3, 4, 5}, -1}},
		// Monoids that are no groups.
		{powersTable(1, 1), facts{true, false, []int{0, 1}, []int{0}, 1}},
		{powersTable(3, 1), facts{true, false, []int{0, 3}, []int{0}, 3}},
		{powersTable(2, 2), facts{true, false, []int{0, 2}, []int{0}, -1}},
		{leastTable(4), facts{true, false, []int{0, 1, 2, 3}, []int{0}, 1}},
		{nullTable(4, 2), facts{true, false, []int{0, 2}, []int{0}, 2}},
		{withZero(powersTable(0, 3)), facts{true, false, []int{0, 3}, []int{0, 1, 2}, 3}},
		{renamed(withZero(powersTable(0, 4)), []int{0, 4, 1, 3, 2}), facts{true, false, []int{0, 2}, []int{0, 1, 3, 4}, 2}},
		{withZero(six), facts{false, false, []int{0, 6}, []int{0, 1, 2, 3, 4, 5}, 6}},
		// Zeros from one side alone.
		{firstTable(3), facts{false, false, []int{0, 1, 2}, []int{0}, -1}},
		{turnedTable(firstTable(3)), facts{false, false, []int{0, 1, 2}, []int{0}, -1}},
		{firstTable(2), facts{true, false, []int{0, 1}, []int{0}, 1}},
		{withZero(firstTable(3)), facts{false, false, []int{0, 1, 2, 3}, []int{0}, 3}},
		{pairsTable(powersTable(0, 2), firstTable(3)), facts{false, false, []int{0, 1, 2}, []int{0, 3}, -1}},
		// Two elements alone do not commute, the first and the last ones of a table.
		{changed(nullTable(5, 1), 4, 3, 2), facts{false, false, []int{0, 1}, []int{0}, 1}},
		{changed(nullTable(5, 1), 3, 4, 2), facts{false, false, []int{0, 1}, []int{0}, 1}},
		{changed(nullTable(5, 4), 1, 2, 3), facts{false, false, []int{0, 4}, []int{0}, 4}},
		{changed(nullTable(40, 1), 38, 39, 2), facts{false, false, []int{0, 1}, []int{0}, 1}},
		{changed(nullTable(40, 39), 2, 1, 3), facts{false, false, []int{0, 39}, []int{0}, 39}},
	}
	for _, c := range cases {
		got := facts{impl.IsCommutative(c.table), impl.IsGroup(c.table), impl.IdempotentsOf(c.table), impl.UnitsOf(c.table), impl.ZeroOf(c.table)}
		if got.commutes != c.want.commutes || got.group != c.want.group || got.zero != c.want.zero || !slices.Equal(got.idempotents, c.want.idempotents) || !slices.Equal(got.units, c.want.units) {
			t.Errorf("%v has %v, want %v", c.table, got, c.want)
		}
		checkTable(t, c.table)
	}
	if units := impl.UnitsOf(maps); len(units) != 6 || impl.IsGroup(maps) || impl.ZeroOf(maps) != -1 || len(impl.IdempotentsOf(maps)) != 10 {
		t.Errorf("of the maps of three points, %v are units and %v idempotents", units, impl.IdempotentsOf(maps))
	}
}

// isConfluent asks for all pairs, joined by a search for all steps.
func isConfluent(s impl.System) bool {
	for _, p := range pairsByPlaces(s) {
		if !joinedByAllSteps(s, p) {
			return false
		}
	}
	return true
}

// monoidWords are the words of MonoidOf an ordered system, if there are any: found by last letters, without chapter 8.
func monoidWords(s impl.System) ([]string, bool) {
	longest := oracleOf(s).longest()
	if longest < 0 || longest > 8 || !isConfluent(s) {
		return nil, false
	}
	count := 0
	for n := range longest + 1 {
		count += oracleOf(s).countBeginning("", n)
	}
	if count > 40 {
		return nil, false
	}
	return slices.Concat(freeWords(s, longest)...), true
}

// checkMonoid holds MonoidOf against the words of an ordered system, and reports whether it succeeds.
func checkMonoid(t *testing.T, s impl.System) bool {
	t.Helper()
	words, wantOk := monoidWords(s)
	table, list, ok := impl.MonoidOf(s)
	if !slices.Equal(list, words) || table.Size != len(words) || len(table.Product) != len(words)*len(words) || ok != wantOk {
		t.Fatalf("MonoidOf(%#v) = %v, %q, %v, want %q, %v", s, table, list, ok, words, wantOk)
	}
	if !ok {
		return false
	}
	for i, u := range words {
		for k, v := range words {
			// Other steps come to the same word.
			_, first := reduced(s, u+v, firstOf)
			_, last := reduced(s, u+v, lastOf)
			form, _ := impl.NormalForm(s, u+v)
			if product := words[table.Product[i*table.Size+k]]; product != first || product != last || product != form {
				t.Fatalf("MonoidOf(%#v) has %q as the product of %q and %q, want %q", s, product, u, v, first)
			}
		}
	}
	if all, _ := impl.AllReduced(s); !slices.Equal(list, all) || !tableIsOk(table) {
		t.Fatalf("MonoidOf(%#v) = %v, %q, which is not valid or not AllReduced, %q", s, table, list, all)
	}
	checkTable(t, table)
	return true
}

func hasNoMonoid(t *testing.T, s impl.System) {
	t.Helper()
	if table, words, ok := impl.MonoidOf(s); table.Size != 0 || len(table.Product) != 0 || len(words) != 0 || ok {
		t.Errorf("MonoidOf(%#v) = %v, %q, %v", s, table, words, ok)
	}
}

func TestMonoidOf(t *testing.T) {
	cases := []struct {
		system, words string
		product       []int
	}{
		// The empty word alone.
		{"1 a>.", ".", []int{0}}, {"2 b>a a>.", ".", []int{0}}, {"2 a>. b>.", ".", []int{0}}, {"4 d>. c>. b>. a>.", ".", []int{0}},
		{"1 aa>.", ". a", []int{0, 1, 1, 0}}, {"1 aa>a", ". a", []int{0, 1, 1, 1}}, {"2 b>a aa>.", ". a", []int{0, 1, 1, 0}}, {"2 a>. bb>b", ". b", []int{0, 1, 1, 1}},
		{"1 aaa>.", ". a aa", []int{0, 1, 2, 1, 2, 0, 2, 0, 1}}, {"1 aaaa>aa", ". a aa aaa", []int{0, 1, 2, 3, 1, 2, 3, 2, 2, 3, 2, 3, 3, 2, 3, 2}},
		{"2 aa>a ab>a ba>b bb>b", ". a b", []int{0, 1, 2, 1, 1, 1, 2, 2, 2}}, {"2 aa>a ab>b ba>a bb>b", ". a b", []int{0, 1, 2, 1, 1, 2, 2, 1, 2}},
		{"2 aa>. bb>. ba>ab", ". a b ab", []int{0, 1, 2, 3, 1, 0, 3, 2, 2, 3, 0, 1, 3, 2, 1, 0}},
		{"2 aa>a bb>b ba>ab", ". a b ab", []int{0, 1, 2, 3, 1, 1, 3, 3, 2, 3, 2, 3, 3, 3, 3, 3}},
		{"2 aa>. bb>. bab>aba", ". a b ab ba aba", []int{0, 1, 2, 3, 4, 5, 1, 0, 3, 2, 5, 4, 2, 4, 0, 5, 1, 3, 3, 5, 1, 4, 0, 2, 4, 2, 5, 0, 3, 1, 5, 3, 4, 1, 2, 0}},
	}
	for _, c := range cases {
		var want []string
		for _, w := range strings.Fields(c.words) {
			want = append(want, strings.Trim(w, "."))
		}
		s := ordered(t, c.system)
		if table, words, ok := impl.MonoidOf(s); !equalTables(table, tableOf(len(want), c.product...)) || !slices.Equal(words, want) || !ok {
			t.Errorf("MonoidOf(%q) = %v, %q, %v, want %v, %q", c.system, table, words, ok, c.product, want)
		}
		checkMonoid(t, s)
	}
}

// TestBoundsOfMonoids has systems with as many and as long reduced words as a monoid can have, and with more. In some, c is a zero.
func TestBoundsOfMonoids(t *testing.T) {
	const zero = " ca>c cb>c ac>c bc>c cc>c"
	cases := []struct {
		system         string
		count, longest int
		ok             bool
	}{
		// As many as there may be.
		{"3 aa>. bbbb>. ccccc>. ba>ab ca>ac cb>bc", 40, 8, true}, {"4 aa>. bb>. cc>. ddddd>. ba>ab ca>ac da>ad cb>bc db>bd dc>cd", 40, 7, true},
		{"3 aaaaa>c bbb>c aba>c abba>c" + zero, 40, 8, true}, {"3 aaaa>c bbbbb>c bbbab>c aab>c abb>c bababa>c" + zero, 40, 7, true}, {"3 aaa>c bbbb>c ababab>c bba>c bbba>c baab>c" + zero, 39, 7, true},
		// One more, and many more.
		{"3 aaaa>c bbbb>c abb>c abab>c abaa>c" + zero, 41, 8, false}, {"3 aaaaa>c bbbb>c aba>c abbb>c ababb>c abba>c bbaaa>c" + zero, 41, 7, false}, {"4 aa>. bb>. ccc>. dddd>. ba>ab ca>ac da>ad cb>bc db>bd dc>cd", 48, 7, false},
		{"3 aaa>. bbbb>. cccc>. ba>ab ca>ac cb>bc", 48, 8, false}, {"2 aaaaaaaa>. bbbbbbbb>. ba>ab", 64, 14, false}, {"4 aaaaaaaa>. bbbbbbbb>. cccccccc>. dddddddd>. ba>ab ca>ac da>ad cb>bc db>bd dc>cd", 4096, 28, false},
		{"4 aaaaaaaa>. bbbbbbbb>. cc>. dd>. ba>ab ca>ac da>ad cb>bc db>bd dc>cd", 256, 16, false}, {"3 aaaaaaaa>. bbbbbbbb>. cccc>. ba>ab ca>ac cb>bc", 256, 17, false},
		// Words of 8 letters, and of 9.
		{"1 aaaaaaaa>.", 8, 7, true}, {"2 aaaaaaaa>. bb>. ba>ab", 16, 8, true}, {"2 aaaaaaaa>. bbb>. ba>ab", 24, 9, false}, {"2 aaaaa>. bbbbb>. ba>ab", 25, 8, true}, {"2 aaaaa>. bbbbbb>. ba>ab", 30, 9, false},
		{"2 aaaaaaaa>aaaaaaa bb>b ba>ab", 16, 8, true}, {"2 aaaaaaaa>aaaaaaa bbb>bb ba>ab", 24, 9, false}, {"3 aaa>c bbb>c bbaab>c babbab>c aba>c" + zero, 42, 10, false},
		{"3 aaa>c bbbbb>c bba>c baba>c baaba>c babbb>c" + zero, 40, 9, false}, {"3 aaa>c bb>c bababa>c aaab>c abaaba>c" + zero, 39, 9, false}, {"3 aa>c bbbbb>c ababa>c bbab>c" + zero, 41, 9, false},
		// Reduced words of any length.
		{"1", -1, -1, false}, {"2", -1, -1, false}, {"4", -1, -1, false}, {"2 ba>ab", -1, -1, false}, {"2 a>.", -1, -1, false}, {"2 ab>. ba>.", -1, -1, false}, {"2 aa>. bb>.", -1, -1, false}, {"4 ab>. ba>. cd>. dc>.", -1, -1, false},
	}
	for _, c := range cases {
		s := ordered(t, c.system)
		if n, longest := impl.CountAll(s), impl.LongestReduced(s); n != c.count || longest != c.longest || !impl.IsComplete(s) {
			t.Fatalf("%q has %d words of at most %d letters, and is complete: %v", c.system, n, longest, impl.IsComplete(s))
		}
		if ok := checkMonoid(t, s); ok != c.ok {
			t.Errorf("MonoidOf(%q) is %v", c.system, ok)
		}
		if !c.ok {
			hasNoMonoid(t, s)
		}
	}
}

func TestSystemsWithoutMonoid(t *testing.T) {
	for _, s := range append(invalidSystems(), unorderedSystems()...) {
		hasNoMonoid(t, s)
	}
	for _, s := range someSystems() {
		if !impl.SystemOk(s) {
			hasNoMonoid(t, s)
		}
	}
	// Ordered, with few and short reduced words, but not complete.
	for _, text := range []string{
		"2 aa>. bb>. aba>a", "2 aa>. ab>. ba>b bb>a", "1 aaa>. aaaa>a aa>a", "1 aaa>. aa>a", "2 b>a b>. aa>.", "2 aa>b bb>a ab>a ba>b", "2 aa>. bb>. baba>ab", "1 aaaaaaaa>. aaaaa>.",
		"3 aa>. bb>. cc>. ba>c ca>b cb>a", "4 d>a d>b cc>. bb>. aa>. ca>ac cb>bc ba>ab",
	} {
		s := ordered(t, text)
		if impl.IsComplete(s) || isConfluent(s) || impl.CountAll(s) < 1 || impl.CountAll(s) > 40 || impl.LongestReduced(s) > 8 {
			t.Fatalf("%q is complete: %v, with %d words", text, impl.IsComplete(s), impl.CountAll(s))
		}
		hasNoMonoid(t, s)
		// Rules that are not valid or not ordered leave complete ones without a monoid as well.
		complete, code := impl.Complete(s.Letters, s.Rules)
		if code != impl.CoDone || !checkMonoid(t, complete) {
			t.Fatalf("%q has the completion %#v, %d", text, complete, code)
		}
		for _, r := range []impl.Rule{ruleOf("a", "aa"), ruleOf("", ""), ruleOf("aaaaaaaaa", ""), ruleOf("e", ""), ruleOf("\xff", ""), ruleOf("a", "a")} {
			hasNoMonoid(t, systemOf(s.Letters, append(slices.Clone(complete.Rules), r)...))
		}
		hasNoMonoid(t, systemOf(0, complete.Rules...))
		hasNoMonoid(t, systemOf(5, complete.Rules...))
	}
}

// checkValues holds P3: words are multiplied letter by letter, and come to the element of their form.
func checkValues(t *testing.T, s impl.System, texts []string) {
	t.Helper()
	table, words, ok := impl.MonoidOf(s)
	if !ok {
		t.Fatalf("%#v has no monoid", s)
	}
	for _, w := range texts {
		value := 0
		for _, x := range strings.Split(w, "") {
			form, _ := impl.NormalForm(s, x)
			value, ok = impl.ProductOf(table, value, slices.Index(words, form))
			if !ok {
				t.Fatalf("no product for the letter %q in %v", x, table)
			}
		}
		if form, _ := impl.NormalForm(s, w); words[value] != form {
			t.Fatalf("with %#v, %q has the value %q and the form %q", s, w, words[value], form)
		}
	}
	for i, w := range words {
		m, p := impl.IndexPeriod(table, i)
		if m < 0 || p < 1 || m+p > table.Size {
			t.Fatalf("the powers of %q return from %d after %d", w, m, p)
		}
		for n := 0; n <= 16; n++ {
			power, _ := impl.PowerOf(table, i, n)
			if long, ok := impl.PowerWord(w, n); ok {
				if form, _ := impl.NormalForm(s, long); words[power] != form {
					t.Fatalf("with %#v, %d times %q is %q, want %q", s, n, w, words[power], form)
				}
			}
			again, _ := impl.PowerOf(table, i, n+p)
			if (again == power) != (n >= m) {
				t.Fatalf("the powers %d and %d of %q are %q and %q", n, n+p, w, words[power], words[again])
			}
		}
	}
}

// elementSystems are complete systems with a monoid.
func elementSystems(t *testing.T) []impl.System {
	var list []impl.System
	for _, text := range []string{
		"1 a>.", "1 aaa>.", "1 aaaaaaaa>aaaaa", "2 aa>. bb>. bab>aba", "2 aa>a ab>a ba>b bb>b", "3 aa>. bbbb>. ccccc>. ba>ab ca>ac cb>bc", "2 aaaaaaaa>. bb>. ba>ab",
		"3 aaaaa>c bbb>c aba>c abba>c ca>c cb>c ac>c bc>c cc>c", "4 aa>. bb>b cc>c dd>. ba>ab ca>ac da>ad cb>bc db>bd dc>cd", "2 aa>. bb>. baba>abab",
	} {
		list = append(list, ordered(t, text))
	}
	return list
}

func TestElementsAreMultipliedAsTheirWords(t *testing.T) {
	for _, s := range elementSystems(t) {
		checkMonoid(t, s)
		checkValues(t, s, wordsWith(s, 4))
	}
}

// TestMonoidsOfSmallSystems takes all ordered systems of at most two short rules, and completions of all short equations.
func TestMonoidsOfSmallSystems(t *testing.T) {
	found := 0
	check := func(s impl.System) {
		if checkMonoid(t, s) {
			found++
			checkValues(t, s, wordsWith(s, 3))
		}
	}
	orderedSmallSystems(check)
	if found < 12 {
		t.Errorf("only %d small systems have a monoid", found)
	}
	found = 0
	listsOfRules(rulesOfTwoLetters(2), 2, func(list []impl.Rule) {
		if s, code := impl.Complete(2, list); code == impl.CoDone {
			check(s)
		}
	})
	if found < 100 {
		t.Errorf("only %d completions have a monoid", found)
	}
}

// TestMonoidsOfDrawnSystems draws the same systems each time: completions with powers of all letters, and systems in which the last letter is a zero.
func TestMonoidsOfDrawnSystems(t *testing.T) {
	r := rand.New(rand.NewSource(10))
	found, great, failed := 0, 0, 0
	for i := range 1200 {
		k := 1 + r.Intn(3)
		s := finiteSystem(r, k, []int{8, 5, 3}[k-1])
		if i%3 == 0 {
			s = zeroSystem(r)
		} else if i%3 == 1 {
			s, _ = impl.Complete(k, append(s.Rules[:k:k], drawnEquations(r, k, 4, 4)...))
		}
		if !checkMonoid(t, s) {
			failed++
			continue
		}
		found++
		if impl.CountAll(s) > 20 {
			great++
		}
		checkValues(t, s, []string{drawnWord(r, s.Letters, 16), drawnWord(r, s.Letters, 16), drawnWord(r, s.Letters, 16)})
	}
	if found < 300 || great < 15 || failed < 300 {
		t.Errorf("%d systems have a monoid, %d a great one, %d have none", found, great, failed)
	}
}

// zeroSystem makes some drawn words of the letters a and b, and all with c, become c.
func zeroSystem(r *rand.Rand) impl.System {
	s := systemOf(3, ruleOf("ca", "c"), ruleOf("cb", "c"), ruleOf("ac", "c"), ruleOf("bc", "c"), ruleOf("cc", "c"))
	s.Rules = append(s.Rules, ruleOf(strings.Repeat("a", 2+r.Intn(4)), "c"), ruleOf(strings.Repeat("b", 2+r.Intn(4)), "c"))
	for range 2 + r.Intn(4) {
		s.Rules = append(s.Rules, ruleOf(drawnWord(r, 2, 3)+[]string{"ab", "ba"}[r.Intn(2)]+drawnWord(r, 2, 2), "c"))
	}
	return s
}

// TestMonoidsOfGroups multiplies permutations beside the words.
func TestMonoidsOfGroups(t *testing.T) {
	cases := []struct {
		k         int
		equations string
		points    []string
		elements  int
	}{
		{2, "aa>. bb>. ababab>.", []string{"102", "021"}, 6}, {2, "aa>. bbb>. abab>.", []string{"102", "120"}, 6}, {2, "aa>. bbbb>. abab>.", []string{"0321", "1230"}, 8},
		{2, "aa>. bbb>. ababab>.", []string{"1032", "1203"}, 12}, {2, "aa>. bbb>. abababab>.", []string{"1023", "0231"}, 24}, {1, "aaaaaaa>.", []string{"1234560"}, 7},
	}
	for _, c := range cases {
		s, _ := impl.Complete(c.k, equationsOf(t, c.equations))
		table, words, ok := impl.MonoidOf(s)
		if !ok || table.Size != c.elements || !impl.IsGroup(table) || impl.IsCommutative(table) != (c.k == 1) || len(impl.UnitsOf(table)) != c.elements || impl.ZeroOf(table) != -1 {
			t.Fatalf("MonoidOf(%#v) = %v, %q, %v", s, table, words, ok)
		}
		var maps []string
		for _, w := range words {
			f := "0123456789"[:len(c.points[0])]
			for _, x := range []byte(w) {
				f = moved(f, c.points[x-'a'])
			}
			if slices.Contains(maps, f) {
				t.Fatalf("with %q, %q is a permutation that was there before", words, w)
			}
			maps = append(maps, f)
		}
		for i := range table.Size {
			for k := range table.Size {
				if x, _ := impl.ProductOf(table, i, k); maps[x] != moved(maps[i], maps[k]) {
					t.Fatalf("with %q, the product of %q and %q is %q", c.equations, words[i], words[k], words[x])
				}
			}
		}
	}
}

// callTables calls every function of chapter 9 that takes a table.
func callTables(table impl.Table) {
	impl.TableOk(table)
	impl.IsCommutative(table)
	impl.IdempotentsOf(table)
	impl.ZeroOf(table)
	impl.UnitsOf(table)
	impl.IsGroup(table)
	for _, i := range numbersAround(table.Size) {
		impl.IndexPeriod(table, i)
		impl.ProductOf(table, i, 0)
		impl.ProductOf(table, 0, i)
		for _, n := range []int{-1, 0, 7, 1000, 1001} {
			impl.PowerOf(table, i, n)
		}
	}
}

// TestTableArgumentsAreKept holds chapter 1 against the functions of chapter 9.
func TestTableArgumentsAreKept(t *testing.T) {
	for _, table := range append(someTables(), invalidTables()...) {
		whole := append(slices.Clone(table.Product), -7, -8, -9)
		before := slices.Clone(whole)
		callTables(tableOf(table.Size, whole[:len(table.Product)]...))
		if !slices.Equal(whole, before) {
			t.Errorf("the products of %v became %v", table, whole)
		}
	}
	systems := append(elementSystems(t), someSystems()...)
	for _, s := range append(systems, unorderedSystems()...) {
		rules, all := spared(s.Rules)
		before := slices.Clone(all)
		impl.MonoidOf(impl.System{Letters: s.Letters, Rules: rules})
		if !slices.Equal(all, before) {
			t.Errorf("the rules of %#v became %q", s, all)
		}
	}
}

// fillNumbers changes all of a list, also behind its end.
func fillNumbers(list []int) {
	for i := range list[:cap(list)] {
		list[:cap(list)][i] = -9
	}
}

// TestTableResultsAreNew changes the results, also behind their ends, and asks again.
func TestTableResultsAreNew(t *testing.T) {
	table := renamed(withZero(powersTable(0, 4)), []int{0, 4, 1, 3, 2})
	kept := slices.Clone(table.Product)
	idempotents, units := impl.IdempotentsOf(table), impl.UnitsOf(table)
	others, otherUnits := impl.IdempotentsOf(table), impl.UnitsOf(table)
	fillNumbers(idempotents)
	fillNumbers(units)
	if !slices.Equal(others, []int{0, 2}) || !slices.Equal(otherUnits, []int{0, 1, 3, 4}) || !slices.Equal(table.Product, kept) {
		t.Errorf("a change of a result changed %v, %v or %v", others, otherUnits, table)
	}
	if !slices.Equal(impl.IdempotentsOf(table), others) || !slices.Equal(impl.UnitsOf(table), otherUnits) {
		t.Errorf("a change of a result changed a later one")
	}
	s := ordered(t, "2 aa>. bb>. bab>aba")
	first, words, _ := impl.MonoidOf(s)
	second, otherWords, _ := impl.MonoidOf(s)
	want, wantWords := slices.Clone(second.Product), slices.Clone(otherWords)
	fillNumbers(first.Product)
	for i := range words[:cap(words)] {
		words[:cap(words)][i] = "?"
	}
	third, thirdWords, _ := impl.MonoidOf(s)
	if !slices.Equal(second.Product, want) || !slices.Equal(third.Product, want) || !slices.Equal(otherWords, wantWords) || !slices.Equal(thirdWords, wantWords) {
		t.Errorf("a change of a monoid changed another one")
	}
	if list, _ := impl.AllReduced(s); !slices.Equal(list, wantWords) || impl.FormatSystem(s) != "2 aa>. bb>. bab>aba" {
		t.Errorf("a change of a monoid changed %#v", s)
	}
}

// TestTablesAreTheSameEachTime asks several times at once, and with other tables in between.
func TestTablesAreTheSameEachTime(t *testing.T) {
	tables, systems := someTables(), elementSystems(t)
	var wait sync.WaitGroup
	for range 8 {
		wait.Go(func() {
			for _, table := range tables {
				f := factsOf(table)
				if !impl.TableOk(table) || impl.ZeroOf(table) != f.zero || impl.IsGroup(table) != f.group || !slices.Equal(impl.UnitsOf(table), f.units) {
					t.Errorf("%v has other facts than %v", table, f)
				}
			}
			for _, s := range systems {
				words, _ := monoidWords(s)
				if table, list, ok := impl.MonoidOf(s); !ok || !slices.Equal(list, words) || !tableIsOk(table) {
					t.Errorf("MonoidOf(%#v) = %v, %q, %v", s, table, list, ok)
				}
			}
		})
	}
	wait.Wait()
}
