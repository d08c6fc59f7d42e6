package tests

import (
	"math"
	"math/rand"
	"slices"
	"sync"
	"testing"

	"loop.example/g03201/impl"
)

// turnsTable has the turns of a figure with n corners, and then its reflections: n times 2 elements.
func turnsTable(n int) impl.Table {
	return tableBy(2*n, func(i, k int) int {
		if i < n {
			return k/n*n + (i+k)%n
		}
		return (1-k/n)*n + (i-k%n+n-n)%n
	})
}

// halvesTable has the powers of an element a of the order n, which is even, and their products with an element b, whose square is the power n / 2:
// b and a are the inverse of a and b.
func halvesTable(n int) impl.Table {
	return tableBy(2*n, func(i, k int) int {
		a, c := i%n, k%n
		if i < n {
			return k/n*n + (a+c)%n
		}
		if k < n {
			return n + (a-c+n)%n
		}
		return (a - c + n/2 + n) % n
	})
}

// linesTable has the maps of numbers modulo p to a times a number plus b, where a is a power of root; the number of the map has the power before b.
func linesTable(p, root int) impl.Table {
	factors := []int{1}
	for x := root % p; x != 1; x = x * root % p {
		factors = append(factors, x)
	}
	return tableBy(p*len(factors), func(i, k int) int {
		a, c := factors[i/p], factors[k/p]
		return slices.Index(factors, a*c%p)*p + (i%p*c+k%p)%p
	})
}

// cornersTable has the matrices of three rows of numbers modulo p with 1 from corner to corner and 0 below.
func cornersTable(p int) impl.Table {
	return tableBy(p*p*p, func(i, k int) int {
		a, b, c := i/p/p, i/p%p, i%p
		x, y, z := k/p/p, k/p%p, k%p
		return ((a+x)%p*p+(b+y)%p)*p + (c+z+a*y)%p
	})
}

// matricesTable has the matrices of two rows of numbers modulo 3 with the determinant 1.
func matricesTable() impl.Table {
	matrices := [][4]int{{1, 0, 0, 1}}
	for n := range 81 {
		m := [4]int{n / 27, n / 9 % 3, n / 3 % 3, n % 3}
		if (m[0]*m[3]-m[1]*m[2]+9)%3 == 1 && m != matrices[0] {
			matrices = append(matrices, m)
		}
	}
	return tableBy(len(matrices), func(i, k int) int {
		a, b := matrices[i], matrices[k]
		return slices.Index(matrices, [4]int{(a[0]*b[0] + a[1]*b[2]) % 3, (a[0]*b[1] + a[1]*b[3]) % 3, (a[2]*b[0] + a[3]*b[2]) % 3, (a[2]*b[1] + a[3]*b[3]) % 3})
	})
}

// mixed is the table under other numbers, the same ones each time.
func mixed(table impl.Table) impl.Table {
	names := rand.New(rand.NewSource(int64(table.Size))).Perm(table.Size - 1)
	for i := range names {
		names[i]++
	}
	return renamed(table, append([]int{0}, names...))
}

// commutativeGroups are groups of many sizes, also with 1 and with 40 elements.
func commutativeGroups() []impl.Table {
	list := []impl.Table{
		tableOf(1, 0), pairsTable(powersTable(0, 2), powersTable(0, 2)), pairsTable(powersTable(0, 3), powersTable(0, 3)), pairsTable(powersTable(0, 2), powersTable(0, 4)),
		pairsTable(pairsTable(powersTable(0, 2), powersTable(0, 2)), pairsTable(powersTable(0, 2), powersTable(0, 4))), pairsTable(powersTable(0, 4), powersTable(0, 10)), pairsTable(powersTable(0, 6), powersTable(0, 6)),
	}
	list = append(list, pairsTable(list[4], powersTable(0, 1)), mixed(list[4]), mixed(list[5]))
	for _, n := range []int{2, 3, 4, 5, 6, 8, 12, 30, 36, 37, 39, 40} {
		list = append(list, powersTable(0, n))
	}
	return append(list, mixed(powersTable(0, 12)), mixed(powersTable(0, 40)), renamed(powersTable(0, 5), []int{0, 3, 1, 4, 2}))
}

// otherGroups are groups that are not commutative.
func otherGroups(t *testing.T) []impl.Table {
	six, four := mapsOf(t, 6, "102 021"), mapsOf(t, 24, "1023 1230")
	list := []impl.Table{six, four, mapsOf(t, 12, "1032 1203"), mapsOf(t, 20, "12340 02413"), mapsOf(t, 8, "1230 0321")}
	for _, n := range []int{3, 4, 5, 6, 9, 12, 19, 20} {
		list = append(list, turnsTable(n))
	}
	for _, n := range []int{4, 6, 8, 20} {
		list = append(list, halvesTable(n))
	}
	list = append(list, linesTable(5, 2), linesTable(7, 2), linesTable(13, 3), cornersTable(2), cornersTable(3), matricesTable())
	list = append(list, pairsTable(six, six), pairsTable(six, powersTable(0, 6)), pairsTable(halvesTable(4), powersTable(0, 5)), pairsTable(powersTable(0, 2), linesTable(5, 2)), pairsTable(turnsTable(4), pairsTable(powersTable(0, 2), powersTable(0, 2))))
	for _, table := range list {
		list = append(list, mixed(table))
	}
	return append(list, turnedTable(four), turnedTable(matricesTable()), turnedTable(linesTable(13, 3)))
}

func allGroups(t *testing.T) []impl.Table {
	return append(commutativeGroups(), otherGroups(t)...)
}

// otherTables are valid tables that are no groups.
func otherTables(t *testing.T) []impl.Table {
	var list []impl.Table
	for _, table := range someTables() {
		if !factsOf(table).group {
			list = append(list, table)
		}
	}
	// All elements but one are units, or half of them are.
	return append(list, withZero(powersTable(0, 39)), withZero(halvesTable(4)), pairsTable(powersTable(0, 20), powersTable(1, 1)), pairsTable(powersTable(1, 1), turnsTable(10)), bandTable(3, 13), brandtTable(), mapsOf(t, 27, "102 120 001"), mapsOf(t, 16, "0213 0132 0022"))
}

// members tells of each element whether it is in the list.
func members(size int, list []int) []bool {
	has := make([]bool, size)
	for _, i := range list {
		has[i] = true
	}
	return has
}

// listed are the elements that a set has.
func listed(has []bool) []int {
	var list []int
	for i := range has {
		if has[i] {
			list = append(list, i)
		}
	}
	return list
}

// inverseBySearch needs a group.
func inverseBySearch(table impl.Table, i int) int {
	k := 0
	for table.Product[i*table.Size+k] != 0 || table.Product[k*table.Size+i] != 0 {
		k++
	}
	return k
}

// spannedBySearch adds the products and the inverses of all elements it has, until there is nothing new.
func spannedBySearch(table impl.Table, list []int) []int {
	has := members(table.Size, append([]int{0}, list...))
	for {
		before := listed(has)
		for _, i := range before {
			has[inverseBySearch(table, i)] = true
			for _, k := range before {
				has[table.Product[i*table.Size+k]] = true
			}
		}
		if len(listed(has)) == len(before) {
			return before
		}
	}
}

// sideSet has the products of all of a list and i, or of i and all of a list.
func sideSet(table impl.Table, list []int, i int, right bool) []int {
	has := make([]bool, table.Size)
	for _, h := range list {
		if right {
			has[table.Product[h*table.Size+i]] = true
		} else {
			has[table.Product[i*table.Size+h]] = true
		}
	}
	return listed(has)
}

// cosetsBySearch gives each element the number of its set, of those in the order in which they are first met.
func cosetsBySearch(table impl.Table, list []int) []int {
	var sets [][]int
	var numbers []int
	for i := range table.Size {
		set := sideSet(table, list, i, true)
		n := slices.IndexFunc(sets, func(other []int) bool { return slices.Equal(set, other) })
		if n < 0 {
			n = len(sets)
			sets = append(sets, set)
		}
		numbers = append(numbers, n)
	}
	return numbers
}

// normalBySides asks whether the cosets of both sides are the same.
func normalBySides(table impl.Table, list []int) bool {
	for i := range table.Size {
		if !slices.Equal(sideSet(table, list, i, true), sideSet(table, list, i, false)) {
			return false
		}
	}
	return true
}

// conjugatesBySearch are the k for which the products of x and i and of k and x are the same for some x.
func conjugatesBySearch(table impl.Table, i int) []int {
	has := make([]bool, table.Size)
	for k := range table.Size {
		for x := range table.Size {
			has[k] = has[k] || table.Product[x*table.Size+i] == table.Product[k*table.Size+x]
		}
	}
	return listed(has)
}

// commuting are the elements whose product with i does not depend on the order.
func commuting(table impl.Table, i int) []int {
	has := make([]bool, table.Size)
	for x := range table.Size {
		has[x] = table.Product[x*table.Size+i] == table.Product[i*table.Size+x]
	}
	return listed(has)
}

// classSizesByCounts: a class has as many elements as all of them divided by those that commute with one of it.
func classSizesByCounts(table impl.Table) []int {
	counts := make([]int, table.Size+1)
	for i := range table.Size {
		counts[table.Size/len(commuting(table, i))]++
	}
	var sizes []int
	for n := range counts {
		for range counts[n] / max(n, 1) {
			sizes = append(sizes, n)
		}
	}
	return sizes
}

// commutatorsBySearch has the c for which c, y and x are x and y, for some x and y, and their products.
func commutatorsBySearch(table impl.Table) []int {
	n := table.Size
	has := make([]bool, n)
	for c := range n {
		for x := range n {
			for y := range n {
				has[c] = has[c] || table.Product[c*n+table.Product[y*n+x]] == table.Product[x*n+y]
			}
		}
	}
	return spannedBySearch(table, listed(has))
}

// checkGroups holds the functions of chapter 11 against a group, but for those with a list.
func checkGroups(t *testing.T, table impl.Table) {
	t.Helper()
	var center []int
	for i := range table.Size {
		if len(commuting(table, i)) == table.Size {
			center = append(center, i)
		}
		if got, ok := impl.InverseOf(table, i); got != inverseBySearch(table, i) || !ok {
			t.Fatalf("InverseOf(%v, %d) = %d, %v, want %d", table, i, got, ok, inverseBySearch(table, i))
		}
		if got, want := impl.ConjugatesOf(table, i), conjugatesBySearch(table, i); !slices.Equal(got, want) {
			t.Fatalf("ConjugatesOf(%v, %d) = %v, want %v", table, i, got, want)
		}
		checkOrder(t, table, i)
	}
	if got := impl.CenterOf(table); !slices.Equal(got, center) {
		t.Fatalf("CenterOf(%v) = %v, want %v", table, got, center)
	}
	if got, want := impl.CommutatorsOf(table), commutatorsBySearch(table); !slices.Equal(got, want) {
		t.Fatalf("CommutatorsOf(%v) = %v, want %v", table, got, want)
	}
	if got, want := impl.ClassSizes(table), classSizesByCounts(table); !slices.Equal(got, want) {
		t.Fatalf("ClassSizes(%v) = %v, want %v", table, got, want)
	}
}

// checkOrder: none of the powers before the order is 0, and the power with the order is.
func checkOrder(t *testing.T, table impl.Table, i int) {
	t.Helper()
	order := impl.OrderOf(table, i)
	if order < 1 || order > table.Size || table.Size%order != 0 {
		t.Fatalf("OrderOf(%v, %d) = %d", table, i, order)
	}
	power := 0
	for n := 1; n <= order; n++ {
		power = table.Product[i*table.Size+power]
		if (power == 0) != (n == order) {
			t.Fatalf("OrderOf(%v, %d) = %d, but the power %d is %d", table, i, order, n, power)
		}
	}
	if power, ok := impl.PowerOf(table, i, order); power != 0 || !ok {
		t.Fatalf("OrderOf(%v, %d) = %d, but this power is %d, %v", table, i, order, power, ok)
	}
	if got := impl.SubgroupOf(table, []int{i}); len(got) != order {
		t.Fatalf("SubgroupOf(%v, %d) = %v, with the order %d", table, i, got, order)
	}
}

// checkSubgroup holds the functions with a list against a group.
func checkSubgroup(t *testing.T, table impl.Table, list []int) {
	t.Helper()
	want := spannedBySearch(table, list)
	if got := impl.SubgroupOf(table, list); !slices.Equal(got, want) {
		t.Fatalf("SubgroupOf(%v, %v) = %v, want %v", table, list, got, want)
	}
	cosets := cosetsBySearch(table, want)
	if got := impl.CosetsOf(table, list); !slices.Equal(got, cosets) {
		t.Fatalf("CosetsOf(%v, %v) = %v, want %v", table, list, got, cosets)
	}
	if got, normal := impl.IsNormal(table, list), normalBySides(table, want); got != normal {
		t.Fatalf("IsNormal(%v, %v) is %v", table, list, got)
	}
}

// hasNoGroup checks that no function of chapter 11 takes the table.
func hasNoGroup(t *testing.T, table impl.Table) {
	t.Helper()
	if center, commutators, sizes := impl.CenterOf(table), impl.CommutatorsOf(table), impl.ClassSizes(table); len(center) != 0 || len(commutators) != 0 || len(sizes) != 0 {
		t.Errorf("%v has the center %v, the commutators %v and the sizes %v", table, center, commutators, sizes)
	}
	for _, i := range append(numbersAround(table.Size), 2, 3) {
		isNoElement(t, table, i)
	}
	for _, list := range [][]int{nil, {}, {0, 0}, {0, 1}, numbersFrom(0, max(0, min(table.Size, 50))-1)} {
		hasNoSubgroup(t, table, list)
	}
}

// isNoElement checks that no function takes i as an element of the table.
func isNoElement(t *testing.T, table impl.Table, i int) {
	t.Helper()
	if k, ok := impl.InverseOf(table, i); k != 0 || ok {
		t.Errorf("InverseOf(%v, %d) = %d, %v", table, i, k, ok)
	}
	if order, list := impl.OrderOf(table, i), impl.ConjugatesOf(table, i); order != 0 || len(list) != 0 {
		t.Errorf("in %v, %d has the order %d and the conjugates %v", table, i, order, list)
	}
	for _, list := range [][]int{{i}, {i, 0}, {0, i}, {0, 0, i, 0}, {i, i}} {
		hasNoSubgroup(t, table, list)
	}
}

func hasNoSubgroup(t *testing.T, table impl.Table, list []int) {
	t.Helper()
	if got := impl.SubgroupOf(table, list); len(got) != 0 {
		t.Errorf("SubgroupOf(%v, %v) = %v", table, list, got)
	}
	if got := impl.CosetsOf(table, list); len(got) != 0 {
		t.Errorf("CosetsOf(%v, %v) = %v", table, list, got)
	}
	if impl.IsNormal(table, list) {
		t.Errorf("IsNormal(%v, %v) is true", table, list)
	}
}

func TestTablesThatAreNoGroups(t *testing.T) {
	for _, table := range append(invalidTables(), otherTables(t)...) {
		hasNoGroup(t, table)
	}
	for size := 1; size <= 42; size++ {
		table := powersTable(0, size)
		if size > 40 {
			hasNoGroup(t, table)
		} else if len(impl.CenterOf(table)) != size || len(impl.SubgroupOf(table, nil)) != 1 || len(impl.ClassSizes(table)) != size || len(impl.CommutatorsOf(table)) != 1 {
			t.Errorf("%v is no group", table)
		}
		if size > 1 {
			hasNoGroup(t, powersTable(1, size-1))
			hasNoGroup(t, powersTable(size-1, 1))
		}
	}
	// With one product changed, the table of a group is none any more.
	for _, table := range []impl.Table{powersTable(0, 2), mapsOf(t, 6, "102 021"), halvesTable(20)} {
		last := table.Size - 1
		for _, x := range []int{-1, table.Size, math.MinInt, 1 << 62} {
			hasNoGroup(t, changed(table, 0, last, x))
			hasNoGroup(t, changed(table, last, last, x))
		}
		for _, i := range []int{1, last} {
			hasNoGroup(t, changed(table, i, last, (table.Product[i*table.Size+last]+1)%table.Size))
		}
	}
}

// TestElementsThatAreNone asks groups for other elements, also among those there are.
func TestElementsThatAreNone(t *testing.T) {
	for _, table := range allGroups(t) {
		for _, i := range numbersAround(table.Size) {
			if i >= 0 && i < table.Size {
				continue
			}
			isNoElement(t, table, i)
			all := numbersFrom(0, table.Size-1)
			hasNoSubgroup(t, table, append(all, i))
			hasNoSubgroup(t, table, append([]int{i}, all...))
			hasNoSubgroup(t, table, slices.Insert(all, table.Size/2, i))
			hasNoSubgroup(t, table, append(slices.Repeat(all, 50), i))
		}
	}
}

func TestInverseOfAndOrderOf(t *testing.T) {
	six := mapsOf(t, 6, "102 021")
	cases := []struct {
		table           impl.Table
		inverse, orders []int
	}{
		{tableOf(1, 0), []int{0}, []int{1}}, {powersTable(0, 2), []int{0, 1}, []int{1, 2}}, {powersTable(0, 6), []int{0, 5, 4, 3, 2, 1}, []int{1, 6, 3, 2, 3, 6}}, {renamed(powersTable(0, 5), []int{0, 3, 1, 4, 2}), []int{0, 4, 3, 2, 1}, []int{1, 5, 5, 5, 5}},
		{pairsTable(powersTable(0, 2), powersTable(0, 2)), []int{0, 1, 2, 3}, []int{1, 2, 2, 2}}, {six, []int{0, 1, 2, 4, 3, 5}, []int{1, 2, 2, 3, 3, 2}}, {turnedTable(six), []int{0, 1, 2, 4, 3, 5}, []int{1, 2, 2, 3, 3, 2}},
		{turnsTable(4), []int{0, 3, 2, 1, 4, 5, 6, 7}, []int{1, 4, 2, 4, 2, 2, 2, 2}}, {halvesTable(4), []int{0, 3, 2, 1, 6, 7, 4, 5}, []int{1, 4, 2, 4, 4, 4, 4, 4}}, {pairsTable(powersTable(0, 2), powersTable(0, 3)), []int{0, 2, 1, 3, 5, 4}, []int{1, 3, 3, 2, 6, 6}},
	}
	for _, c := range cases {
		for i := range c.table.Size {
			if got, ok := impl.InverseOf(c.table, i); got != c.inverse[i] || !ok {
				t.Errorf("InverseOf(%v, %d) = %d, %v, want %d", c.table, i, got, ok, c.inverse[i])
			}
			if got := impl.OrderOf(c.table, i); got != c.orders[i] {
				t.Errorf("OrderOf(%v, %d) = %d, want %d", c.table, i, got, c.orders[i])
			}
		}
		checkGroups(t, c.table)
	}
	for i := range 40 {
		want := 40
		for n := 39; n > 0; n-- {
			if i*n%40 == 0 {
				want = n
			}
		}
		inverse, ok := impl.InverseOf(powersTable(0, 40), i)
		if got := impl.OrderOf(powersTable(0, 40), i); got != want || inverse != (40-i)%40 || !ok {
			t.Errorf("the power %d of 40 has the order %d, want %d, and the inverse %d", i, got, want, inverse)
		}
	}
}

func TestSubgroupOf(t *testing.T) {
	six, four := mapsOf(t, 6, "102 021"), powersTable(0, 4)
	all := numbersFrom(0, 39)
	cases := []struct {
		table      impl.Table
		list, want []int
	}{
		// Of no elements, and of the identity alone.
		{tableOf(1, 0), nil, []int{0}}, {tableOf(1, 0), []int{}, []int{0}}, {tableOf(1, 0), []int{0}, []int{0}}, {tableOf(1, 0), []int{0, 0, 0}, []int{0}},
		{powersTable(0, 40), nil, []int{0}}, {powersTable(0, 40), []int{}, []int{0}}, {powersTable(0, 40), []int{0}, []int{0}}, {six, nil, []int{0}}, {six, []int{}, []int{0}}, {six, []int{0, 0}, []int{0}},
		// Of one element, also twice and with the identity.
		{four, []int{2}, []int{0, 2}}, {four, []int{3}, []int{0, 1, 2, 3}}, {four, []int{2, 2}, []int{0, 2}}, {four, []int{2, 0}, []int{0, 2}}, {four, []int{0, 2}, []int{0, 2}}, {six, []int{5}, []int{0, 5}}, {six, []int{4}, []int{0, 3, 4}}, {six, []int{3, 4, 3}, []int{0, 3, 4}},
		{powersTable(0, 40), []int{39}, all}, {powersTable(0, 40), []int{35}, []int{0, 5, 10, 15, 20, 25, 30, 35}}, {powersTable(0, 40), []int{20}, []int{0, 20}}, {powersTable(0, 37), []int{36}, numbersFrom(0, 36)}, {renamed(powersTable(0, 6), []int{0, 5, 1, 3, 2, 4}), []int{2}, []int{0, 1, 2}},
		// Of several, in any order.
		{powersTable(0, 40), []int{15, 10}, []int{0, 5, 10, 15, 20, 25, 30, 35}}, {powersTable(0, 40), []int{8, 10}, numbersFromBy(0, 39, 2)}, {powersTable(0, 40), []int{8, 5}, all}, {powersTable(0, 36), []int{24, 18, 30, 12}, []int{0, 6, 12, 18, 24, 30}},
		{six, []int{2, 1}, []int{0, 1, 2, 3, 4, 5}}, {six, []int{1, 3}, []int{0, 1, 2, 3, 4, 5}}, {six, []int{5, 4, 3, 2, 1, 0}, []int{0, 1, 2, 3, 4, 5}}, {turnsTable(4), []int{2, 4}, []int{0, 2, 4, 6}}, {turnsTable(4), []int{7, 5}, []int{0, 2, 5, 7}}, {turnsTable(4), []int{7, 4}, numbersFrom(0, 7)},
		{turnsTable(20), []int{20, 25}, []int{0, 5, 10, 15, 20, 25, 30, 35}}, {turnsTable(20), []int{39, 38}, all}, {halvesTable(20), []int{20}, []int{0, 10, 20, 30}}, {halvesTable(20), []int{21, 4}, []int{0, 2, 4, 6, 8, 10, 12, 14, 16, 18, 21, 23, 25, 27, 29, 31, 33, 35, 37, 39}},
		{pairsTable(pairsTable(powersTable(0, 2), powersTable(0, 2)), pairsTable(powersTable(0, 2), powersTable(0, 4))), []int{1, 4, 8, 16}, numbersFrom(0, 31)}, {pairsTable(pairsTable(powersTable(0, 2), powersTable(0, 2)), pairsTable(powersTable(0, 2), powersTable(0, 4))), []int{16, 8, 2, 16, 24}, []int{0, 2, 8, 10, 16, 18, 24, 26}},
		// Longer than the table.
		{powersTable(0, 40), slices.Repeat([]int{20, 0, 30}, 1000), []int{0, 10, 20, 30}}, {six, slices.Repeat([]int{3}, 100), []int{0, 3, 4}}, {four, append(slices.Repeat([]int{0, 2}, 500000), 1), []int{0, 1, 2, 3}}, {tableOf(1, 0), make([]int, 1<<20), []int{0}},
	}
	for _, c := range cases {
		if got := impl.SubgroupOf(c.table, c.list); !slices.Equal(got, c.want) {
			t.Errorf("SubgroupOf(%v, %v) = %v, want %v", c.table, c.list[:min(len(c.list), 9)], got, c.want)
		}
		checkSubgroup(t, c.table, c.list)
	}
}

// numbersFromBy has every so many of the numbers from one to another.
func numbersFromBy(from, to, by int) []int {
	var list []int
	for i := from; i <= to; i += by {
		list = append(list, i)
	}
	return list
}

func TestCosetsOf(t *testing.T) {
	six := mapsOf(t, 6, "102 021")
	cases := []struct {
		table      impl.Table
		list, want []int
	}{
		{tableOf(1, 0), nil, []int{0}}, {tableOf(1, 0), []int{0}, []int{0}}, {powersTable(0, 4), nil, []int{0, 1, 2, 3}}, {powersTable(0, 4), []int{0}, []int{0, 1, 2, 3}}, {powersTable(0, 4), []int{2}, []int{0, 1, 0, 1}}, {powersTable(0, 4), []int{1}, []int{0, 0, 0, 0}},
		{powersTable(0, 40), nil, numbersFrom(0, 39)}, {powersTable(0, 40), []int{7}, make([]int, 40)}, {powersTable(0, 6), []int{3, 3}, []int{0, 1, 2, 0, 1, 2}}, {powersTable(0, 6), []int{4, 2}, []int{0, 1, 0, 1, 0, 1}},
		{six, []int{3}, []int{0, 1, 1, 0, 0, 1}}, {six, []int{1, 2}, []int{0, 0, 0, 0, 0, 0}}, {renamed(powersTable(0, 6), []int{0, 5, 1, 3, 2, 4}), []int{3}, []int{0, 1, 2, 0, 1, 2}},
		// Right and left cosets differ: the right ones of 0 and 1 have 2 and 3 (the products of 1 and 2, and of 1 and 3), the left ones 2 and 4.
		{six, []int{1}, []int{0, 0, 1, 1, 2, 2}}, {turnedTable(six), []int{1}, []int{0, 0, 1, 2, 1, 2}}, {turnsTable(4), []int{4}, []int{0, 1, 2, 3, 0, 3, 2, 1}}, {turnedTable(turnsTable(4)), []int{4}, []int{0, 1, 2, 3, 0, 1, 2, 3}},
		{turnsTable(4), []int{5}, []int{0, 1, 2, 3, 1, 0, 3, 2}},
		// The numbers follow the least elements.
		{renamed(powersTable(0, 6), []int{0, 3, 4, 5, 1, 2}), []int{1}, []int{0, 0, 1, 1, 0, 1}}, {renamed(powersTable(0, 6), []int{0, 3, 4, 5, 1, 2}), []int{5}, []int{0, 1, 2, 1, 2, 0}}, {renamed(powersTable(0, 6), []int{0, 5, 4, 3, 2, 1}), []int{2}, []int{0, 1, 0, 1, 0, 1}},
	}
	for _, c := range cases {
		if got := impl.CosetsOf(c.table, c.list); !slices.Equal(got, c.want) {
			t.Errorf("CosetsOf(%v, %v) = %v, want %v", c.table, c.list, got, c.want)
		}
		checkSubgroup(t, c.table, c.list)
	}
}

func TestIsNormal(t *testing.T) {
	six, four, twelve := mapsOf(t, 6, "102 021"), mapsOf(t, 24, "1023 1230"), mapsOf(t, 12, "1032 1203")
	cases := []struct {
		table impl.Table
		list  []int
		want  bool
	}{
		// 0 alone, all elements, and all subgroups of commutative groups.
		{tableOf(1, 0), nil, true}, {tableOf(1, 0), []int{0, 0}, true}, {six, nil, true}, {six, []int{}, true}, {six, []int{0}, true}, {six, []int{1, 2}, true}, {powersTable(0, 40), nil, true}, {powersTable(0, 40), []int{8}, true}, {powersTable(0, 12), []int{4, 6}, true},
		{pairsTable(powersTable(0, 2), powersTable(0, 2)), []int{3}, true}, {four, numbersFrom(0, 23), true}, {twelve, numbersFrom(0, 11), true},
		// Subgroups of half the elements are normal, those of one reflection are not.
		{six, []int{3}, true}, {six, []int{4, 3}, true}, {six, []int{1}, false}, {six, []int{2}, false}, {six, []int{5, 0, 5}, false}, {turnsTable(4), []int{2}, true}, {turnsTable(4), []int{4, 2}, true}, {turnsTable(4), []int{4}, false}, {turnsTable(4), []int{7}, false},
		{turnsTable(20), []int{5}, true}, {turnsTable(20), []int{20, 2}, true}, {turnsTable(20), []int{20, 4}, false}, {turnsTable(20), []int{10, 39}, false}, {turnsTable(20), []int{10}, true}, {turnsTable(19), []int{19}, false},
		// All subgroups of eight elements in which only one has the order 2 are normal, also in a group of 40.
		{halvesTable(4), []int{1}, true}, {halvesTable(4), []int{4}, true}, {halvesTable(4), []int{7}, true}, {pairsTable(halvesTable(4), powersTable(0, 5)), []int{20}, true}, {halvesTable(20), []int{20}, false}, {halvesTable(20), []int{10}, true}, {halvesTable(6), []int{6}, false},
		{linesTable(13, 3), []int{1}, true}, {linesTable(13, 3), []int{13}, false}, {linesTable(5, 2), []int{10, 1}, true}, {linesTable(5, 2), []int{10}, false}, {cornersTable(3), []int{1}, true}, {cornersTable(3), []int{9}, false}, {cornersTable(3), []int{9, 1}, true},
		// Some conjugates are there, but not all: of the first element, and of the last one.
		{pairsTable(six, six), []int{3}, true}, {pairsTable(six, six), []int{18, 3}, true}, {pairsTable(six, six), []int{18, 1}, false}, {pairsTable(six, six), []int{1, 18}, false}, {pairsTable(six, six), []int{21}, false},
	}
	for _, c := range cases {
		if got := impl.IsNormal(c.table, c.list); got != c.want {
			t.Errorf("IsNormal(%v, %v) is %v", c.table, c.list, got)
		}
		checkSubgroup(t, c.table, c.list)
	}
}

func TestCenterAndCommutators(t *testing.T) {
	six := mapsOf(t, 6, "102 021")
	cases := []struct {
		table               impl.Table
		center, commutators []int
	}{
		{tableOf(1, 0), []int{0}, []int{0}}, {powersTable(0, 2), []int{0, 1}, []int{0}}, {powersTable(0, 40), numbersFrom(0, 39), []int{0}}, {pairsTable(powersTable(0, 6), powersTable(0, 6)), numbersFrom(0, 35), []int{0}}, {mixed(powersTable(0, 12)), numbersFrom(0, 11), []int{0}},
		// 0 alone is in the center.
		{six, []int{0}, []int{0, 3, 4}}, {turnsTable(5), []int{0}, []int{0, 1, 2, 3, 4}}, {turnsTable(19), []int{0}, numbersFrom(0, 18)}, {linesTable(5, 2), []int{0}, []int{0, 1, 2, 3, 4}}, {linesTable(13, 3), []int{0}, numbersFrom(0, 12)}, {pairsTable(six, six), []int{0}, []int{0, 3, 4, 18, 21, 22, 24, 27, 28}},
		// Others are.
		{turnsTable(4), []int{0, 2}, []int{0, 2}}, {turnsTable(20), []int{0, 10}, []int{0, 2, 4, 6, 8, 10, 12, 14, 16, 18}}, {halvesTable(4), []int{0, 2}, []int{0, 2}}, {halvesTable(20), []int{0, 10}, []int{0, 2, 4, 6, 8, 10, 12, 14, 16, 18}}, {cornersTable(3), []int{0, 1, 2}, []int{0, 1, 2}},
		{pairsTable(six, powersTable(0, 6)), []int{0, 1, 2, 3, 4, 5}, []int{0, 18, 24}}, {renamed(turnsTable(4), []int{0, 4, 7, 5, 1, 2, 3, 6}), []int{0, 7}, []int{0, 7}},
	}
	for _, c := range cases {
		if got := impl.CenterOf(c.table); !slices.Equal(got, c.center) {
			t.Errorf("CenterOf(%v) = %v, want %v", c.table, got, c.center)
		}
		if got := impl.CommutatorsOf(c.table); !slices.Equal(got, c.commutators) {
			t.Errorf("CommutatorsOf(%v) = %v, want %v", c.table, got, c.commutators)
		}
		checkGroups(t, c.table)
	}
}

func TestConjugatesOf(t *testing.T) {
	six := mapsOf(t, 6, "102 021")
	cases := []struct {
		table impl.Table
		i     int
		want  []int
	}{
		{tableOf(1, 0), 0, []int{0}}, {powersTable(0, 40), 0, []int{0}}, {powersTable(0, 40), 39, []int{39}}, {six, 0, []int{0}}, {six, 1, []int{1, 2, 5}}, {six, 5, []int{1, 2, 5}}, {six, 3, []int{3, 4}}, {six, 4, []int{3, 4}},
		// Elements of the center, and others.
		{turnsTable(4), 2, []int{2}}, {turnsTable(4), 3, []int{1, 3}}, {turnsTable(4), 4, []int{4, 6}}, {turnsTable(4), 7, []int{5, 7}}, {turnsTable(20), 10, []int{10}}, {turnsTable(20), 13, []int{7, 13}}, {turnsTable(20), 20, numbersFromBy(20, 38, 2)}, {turnsTable(19), 37, numbersFrom(19, 37)},
		{halvesTable(4), 2, []int{2}}, {halvesTable(4), 5, []int{5, 7}}, {cornersTable(3), 1, []int{1}}, {cornersTable(3), 9, []int{9, 10, 11}}, {linesTable(13, 3), 1, []int{1, 3, 9}}, {linesTable(13, 3), 26, numbersFrom(26, 38)}, {renamed(powersTable(0, 4), []int{0, 3, 1, 2}), 3, []int{3}},
		{renamed(turnsTable(4), []int{0, 4, 7, 5, 1, 2, 3, 6}), 6, []int{2, 6}}, {renamed(turnsTable(4), []int{0, 4, 7, 5, 1, 2, 3, 6}), 7, []int{7}},
	}
	for _, c := range cases {
		if got := impl.ConjugatesOf(c.table, c.i); !slices.Equal(got, c.want) {
			t.Errorf("ConjugatesOf(%v, %d) = %v, want %v", c.table, c.i, got, c.want)
		}
		checkGroups(t, c.table)
	}
}

// TestKnownGroups has groups of which the sizes of all classes and the numbers of the elements of each order are known.
func TestKnownGroups(t *testing.T) {
	six := mapsOf(t, 6, "102 021")
	cases := []struct {
		table               impl.Table
		center, commutators int
		sizes               []int
		// How often an element has an order.
		orders map[int]int
	}{
		{tableOf(1, 0), 1, 1, []int{1}, map[int]int{1: 1}}, {powersTable(0, 12), 12, 1, slices.Repeat([]int{1}, 12), map[int]int{1: 1, 2: 1, 3: 2, 4: 2, 6: 2, 12: 4}}, {pairsTable(powersTable(0, 4), powersTable(0, 10)), 40, 1, slices.Repeat([]int{1}, 40), map[int]int{1: 1, 2: 3, 4: 4, 5: 4, 10: 12, 20: 16}},
		// Permutations: all of three points, all of four, and the even ones of four.
		{six, 1, 3, []int{1, 2, 3}, map[int]int{1: 1, 2: 3, 3: 2}}, {mapsOf(t, 24, "1023 1230"), 1, 12, []int{1, 3, 6, 6, 8}, map[int]int{1: 1, 2: 9, 3: 8, 4: 6}}, {mapsOf(t, 12, "1032 1203"), 1, 4, []int{1, 3, 4, 4}, map[int]int{1: 1, 2: 3, 3: 8}},
		{turnsTable(4), 2, 2, []int{1, 1, 2, 2, 2}, map[int]int{1: 1, 2: 5, 4: 2}}, {turnsTable(5), 1, 5, []int{1, 2, 2, 5}, map[int]int{1: 1, 2: 5, 5: 4}}, {turnsTable(12), 2, 6, []int{1, 1, 2, 2, 2, 2, 2, 6, 6}, map[int]int{1: 1, 2: 13, 3: 2, 4: 2, 6: 2, 12: 4}},
		{turnsTable(20), 2, 10, []int{1, 1, 2, 2, 2, 2, 2, 2, 2, 2, 2, 10, 10}, map[int]int{1: 1, 2: 21, 4: 2, 5: 4, 10: 4, 20: 8}}, {turnsTable(19), 1, 19, []int{1, 2, 2, 2, 2, 2, 2, 2, 2, 2, 19}, map[int]int{1: 1, 2: 19, 19: 18}},
		{halvesTable(4), 2, 2, []int{1, 1, 2, 2, 2}, map[int]int{1: 1, 2: 1, 4: 6}}, {halvesTable(6), 2, 3, []int{1, 1, 2, 2, 3, 3}, map[int]int{1: 1, 2: 1, 3: 2, 4: 6, 6: 2}}, {halvesTable(20), 2, 10, []int{1, 1, 2, 2, 2, 2, 2, 2, 2, 2, 2, 10, 10}, map[int]int{1: 1, 2: 1, 4: 22, 5: 4, 10: 4, 20: 8}},
		{linesTable(5, 2), 1, 5, []int{1, 4, 5, 5, 5}, map[int]int{1: 1, 2: 5, 4: 10, 5: 4}}, {linesTable(7, 2), 1, 7, []int{1, 3, 3, 7, 7}, map[int]int{1: 1, 3: 14, 7: 6}}, {linesTable(13, 3), 1, 13, []int{1, 3, 3, 3, 3, 13, 13}, map[int]int{1: 1, 3: 26, 13: 12}},
		{cornersTable(2), 2, 2, []int{1, 1, 2, 2, 2}, map[int]int{1: 1, 2: 5, 4: 2}}, {cornersTable(3), 3, 3, []int{1, 1, 1, 3, 3, 3, 3, 3, 3, 3, 3}, map[int]int{1: 1, 3: 26}}, {matricesTable(), 2, 8, []int{1, 1, 4, 4, 4, 4, 6}, map[int]int{1: 1, 2: 1, 3: 8, 4: 6, 6: 8}},
		{pairsTable(six, six), 1, 9, []int{1, 2, 2, 3, 3, 4, 6, 6, 9}, map[int]int{1: 1, 2: 15, 3: 8, 6: 12}},
	}
	for _, c := range cases {
		for _, table := range []impl.Table{c.table, mixed(c.table), turnedTable(c.table)} {
			if got := impl.ClassSizes(table); !slices.Equal(got, c.sizes) {
				t.Errorf("ClassSizes(%v) = %v, want %v", table, got, c.sizes)
			}
			if center, commutators := len(impl.CenterOf(table)), len(impl.CommutatorsOf(table)); center != c.center || commutators != c.commutators {
				t.Errorf("%v has %d elements in the center and %d of commutators, want %d and %d", table, center, commutators, c.center, c.commutators)
			}
			orders := make([]int, 42)
			for i := range table.Size {
				orders[impl.OrderOf(table, i)]++
			}
			for n := range orders {
				if orders[n] != c.orders[n] {
					t.Errorf("%v has %d elements of the order %d, want %d", table, orders[n], n, c.orders[n])
				}
			}
			checkGroups(t, table)
		}
	}
}

func TestGroupsInManyWays(t *testing.T) {
	for _, table := range allGroups(t) {
		if !tableIsOk(table) || !factsOf(table).group {
			t.Fatalf("%v should be a group", table)
		}
		checkGroups(t, table)
		checkDivisions(t, table)
		for i := range table.Size {
			checkSubgroup(t, table, []int{i})
			checkSubgroup(t, table, []int{i, table.Size / 2, 0, i})
		}
	}
}

// checkDivisions holds P4: the orders of all elements and the sizes of all subgroups and classes divide the order of the group.
func checkDivisions(t *testing.T, table impl.Table) {
	t.Helper()
	sum := 0
	for _, n := range impl.ClassSizes(table) {
		sum += n
		if table.Size%n != 0 {
			t.Fatalf("%v has a class of %d elements", table, n)
		}
	}
	center, commutators := impl.CenterOf(table), impl.CommutatorsOf(table)
	if sum != table.Size || table.Size%len(center) != 0 || table.Size%len(commutators) != 0 {
		t.Fatalf("%v has %d elements in its classes, %d in its center, and the subgroup %v of commutators", table, sum, len(center), commutators)
	}
	if !impl.IsNormal(table, center) || !impl.IsNormal(table, commutators) || !slices.Equal(impl.SubgroupOf(table, center), center) || !slices.Equal(impl.SubgroupOf(table, commutators), commutators) {
		t.Fatalf("the center %v or the commutators %v of %v are not normal", center, commutators, table)
	}
	if commutes := impl.IsCommutative(table); commutes != (len(center) == table.Size) || commutes != (len(commutators) == 1) {
		t.Fatalf("%v is commutative: %v, with the center %v and the commutators %v", table, commutes, center, commutators)
	}
	for _, i := range elementsToTry(table.Size) {
		conjugates := impl.ConjugatesOf(table, i)
		for _, list := range [][]int{{i}, {i, table.Size - 1}, conjugates} {
			checkCosets(t, table, list)
		}
		if !impl.IsNormal(table, conjugates) || (len(conjugates) == 1) != slices.Contains(center, i) {
			t.Fatalf("ConjugatesOf(%v, %d) = %v", table, i, conjugates)
		}
		for _, k := range conjugates {
			if impl.OrderOf(table, k) != impl.OrderOf(table, i) || !slices.Equal(impl.ConjugatesOf(table, k), conjugates) {
				t.Fatalf("in %v, %d is a conjugate of %d, but not the other way, or has another order", table, k, i)
			}
		}
	}
}

// checkCosets: all cosets have as many elements as the subgroup, and those of a normal one have products, which are a group.
func checkCosets(t *testing.T, table impl.Table, list []int) {
	t.Helper()
	subgroup, cosets := impl.SubgroupOf(table, list), impl.CosetsOf(table, list)
	counts := make([]int, table.Size)
	var leasts []int
	for i, coset := range cosets {
		if counts[coset] == 0 {
			leasts = append(leasts, i)
		}
		counts[coset]++
	}
	if len(leasts)*len(subgroup) != table.Size {
		t.Fatalf("%v has the subgroup %v and %d cosets", table, subgroup, len(leasts))
	}
	for coset := range leasts {
		if counts[coset] != len(subgroup) {
			t.Fatalf("%v has the subgroup %v and the cosets %v", table, subgroup, cosets)
		}
	}
	products := tableBy(len(leasts), func(i, k int) int {
		return cosets[table.Product[leasts[i]*table.Size+leasts[k]]]
	})
	// The product of two cosets depends on them alone exactly if the subgroup is normal.
	depends := true
	for i := range table.Size {
		for k := range table.Size {
			depends = depends && cosets[table.Product[i*table.Size+k]] == products.Product[cosets[i]*len(leasts)+cosets[k]]
		}
	}
	if normal := impl.IsNormal(table, list); normal != depends || normal && !impl.IsGroup(products) {
		t.Fatalf("IsNormal(%v, %v) is %v, and the cosets have the products %v", table, list, normal, products)
	}
	if contains := isFullIn(impl.CommutatorsOf(table), subgroup); contains != (depends && impl.IsCommutative(products)) {
		t.Fatalf("the cosets of %v in %v are commutative: %v", subgroup, table, !contains)
	}
}

// isFullIn reports whether each element of the list is in the other one.
func isFullIn(list, other []int) bool {
	return !slices.ContainsFunc(list, func(i int) bool { return !slices.Contains(other, i) })
}

// TestSubgroupsAreLeast takes all subsets of small groups: those that have 0 and all products are the subgroups.
func TestSubgroupsAreLeast(t *testing.T) {
	six := mapsOf(t, 6, "102 021")
	counts := map[string]int{}
	groups := map[string]impl.Table{"one": tableOf(1, 0), "four": powersTable(0, 4), "pairs": pairsTable(powersTable(0, 2), powersTable(0, 2)), "six": six, "seven": powersTable(0, 7), "turns": mixed(turnsTable(4)), "halves": halvesTable(4), "eight": mixed(powersTable(0, 8)), "twelve": mapsOf(t, 12, "1032 1203")}
	for name, table := range groups {
		var subgroups []int
		for set := 1; set < 1<<table.Size; set += 2 {
			if list := bitsOf(set); slices.Equal(spannedBySearch(table, list), list) {
				subgroups = append(subgroups, set)
			}
		}
		counts[name] = len(subgroups)
		for set := range 1 << table.Size {
			least := slices.IndexFunc(subgroups, func(other int) bool { return set&^other == 0 })
			for n := range subgroups {
				if set&^subgroups[n] == 0 && subgroups[least]&^subgroups[n] != 0 {
					least = n
				}
			}
			if got := impl.SubgroupOf(table, bitsOf(set)); !slices.Equal(got, bitsOf(subgroups[least])) {
				t.Fatalf("SubgroupOf(%v, %v) = %v, want %v", table, bitsOf(set), got, bitsOf(subgroups[least]))
			}
		}
	}
	for name, want := range map[string]int{"one": 1, "four": 3, "pairs": 5, "six": 6, "seven": 2, "turns": 10, "halves": 6, "eight": 4, "twelve": 10} {
		if counts[name] != want {
			t.Errorf("%v has %d subgroups, want %d", groups[name], counts[name], want)
		}
	}
}

func bitsOf(set int) []int {
	var list []int
	for i := range 40 {
		if set>>i&1 == 1 {
			list = append(list, i)
		}
	}
	return list
}

// TestGroupsOfDrawnLists draws the same lists each time: in any order, with elements twice, also longer than the table.
func TestGroupsOfDrawnLists(t *testing.T) {
	r := rand.New(rand.NewSource(12))
	normal, others, whole, small := 0, 0, 0, 0
	for _, table := range allGroups(t) {
		for range 60 {
			list := make([]int, r.Intn(5))
			if r.Intn(10) == 0 {
				list = make([]int, r.Intn(100))
			}
			from := spannedBySearch(table, []int{r.Intn(table.Size), r.Intn(table.Size)})
			for n := range list {
				list[n] = from[r.Intn(len(from))]
			}
			checkSubgroup(t, table, list)
			size := len(impl.SubgroupOf(table, list))
			if impl.IsNormal(table, list) {
				normal++
			} else {
				others++
			}
			if size == table.Size {
				whole++
			} else if size > 1 {
				small++
			}
		}
	}
	if normal < 500 || others < 500 || whole < 500 || small < 500 {
		t.Errorf("%d subgroups are normal, %d are not, %d are whole groups, %d are between", normal, others, whole, small)
	}
}

// TestGroupsOfSmallAndDrawnTables holds tables of all kinds against what they are.
func TestGroupsOfSmallAndDrawnTables(t *testing.T) {
	groups := 0
	check := func(table impl.Table) {
		if !tableIsOk(table) || !factsOf(table).group {
			hasNoGroup(t, table)
			return
		}
		groups++
		checkGroups(t, table)
		checkDivisions(t, table)
		for i := range table.Size {
			for k := range table.Size {
				checkSubgroup(t, table, []int{i, k})
			}
		}
	}
	for size := 1; size <= 3; size++ {
		allTables(size, 0, size-1, true, check)
	}
	// All groups of four elements: three of the numbers of the one kind, and one of the other.
	allTables(4, 0, 3, true, func(table impl.Table) {
		if tableIsOk(table) && factsOf(table).group {
			check(table)
		}
	})
	if groups != 1+1+1+4 {
		t.Errorf("there are %d groups of at most four elements", groups)
	}
	r := rand.New(rand.NewSource(13))
	for range 300 {
		check(drawnTable(r))
	}
	if groups < 50 {
		t.Errorf("only %d tables are groups", groups)
	}
}

// TestGroupsOfSystems has the elements of a monoid: the inverse of a word is the word of the inverse letters in reverse order.
func TestGroupsOfSystems(t *testing.T) {
	cases := []struct {
		letters   int
		equations string
		inverses  []string
		sizes     []int
	}{
		{1, "aaaaa>.", []string{"aaaa"}, []int{1, 1, 1, 1, 1}}, {2, "aa>. bb>. ababab>.", []string{"a", "b"}, []int{1, 2, 3}}, {2, "aa>. bbb>. ababab>.", []string{"a", "bb"}, []int{1, 3, 4, 4}},
		{2, "aa>. bbb>. abababab>.", []string{"a", "bb"}, []int{1, 3, 6, 6, 8}}, {2, "aa>. bbbb>. abab>.", []string{"a", "bbb"}, []int{1, 1, 2, 2, 2}}, {3, "aa>. bb>. cc>. ba>ab ca>ac cb>bc", []string{"a", "b", "c"}, []int{1, 1, 1, 1, 1, 1, 1, 1}},
	}
	for _, c := range cases {
		s, _ := impl.Complete(c.letters, equationsOf(t, c.equations))
		table, words, ok := impl.MonoidOf(s)
		if !ok {
			t.Fatalf("%#v has no monoid", s)
		}
		letters := make([]int, c.letters)
		for x := range letters {
			form, _ := impl.NormalForm(s, string(rune('a'+x)))
			letters[x] = slices.Index(words, form)
		}
		for i, w := range words {
			turned := ""
			for _, x := range []byte(w) {
				turned, _ = impl.NormalForm(s, c.inverses[x-'a']+turned)
			}
			if k, ok := impl.InverseOf(table, i); words[k] != turned || !ok {
				t.Errorf("with %q, the inverse of %q is %q, want %q", c.equations, w, words[k], turned)
			}
		}
		if got := impl.ClassSizes(table); !slices.Equal(got, c.sizes) {
			t.Errorf("with %q, the classes have %v elements, want %v", c.equations, got, c.sizes)
		}
		if got := impl.SubgroupOf(table, letters); !slices.Equal(got, numbersFrom(0, table.Size-1)) {
			t.Errorf("with %q, the letters give %v", c.equations, got)
		}
	}
}

// callGroups calls every function of chapter 11.
func callGroups(table impl.Table, list []int) {
	impl.CenterOf(table)
	impl.CommutatorsOf(table)
	impl.ClassSizes(table)
	impl.SubgroupOf(table, list)
	impl.CosetsOf(table, list)
	impl.IsNormal(table, list)
	for _, i := range []int{-1, 0, 1, table.Size - 1, table.Size, math.MaxInt} {
		impl.InverseOf(table, i)
		impl.OrderOf(table, i)
		impl.ConjugatesOf(table, i)
	}
}

// TestGroupArgumentsAreKept holds chapter 1 against the functions of chapter 11.
func TestGroupArgumentsAreKept(t *testing.T) {
	tables := append(allGroups(t), otherTables(t)...)
	for _, table := range append(tables, invalidTables()...) {
		for _, list := range [][]int{{}, {0}, {table.Size - 1, 0, 1, 1}, {3, 2, 1}, {1, -1, 0}} {
			whole := append(slices.Clone(table.Product), -7, -8, -9)
			wholeList := append(slices.Clone(list), 1, 2, -7)
			before, listBefore := slices.Clone(whole), slices.Clone(wholeList)
			callGroups(tableOf(table.Size, whole[:len(table.Product)]...), wholeList[:len(list)])
			if !slices.Equal(whole, before) || !slices.Equal(wholeList, listBefore) {
				t.Fatalf("the products of %v became %v, or the list %v became %v", table, whole, list, wholeList)
			}
		}
	}
}

// TestGroupResultsAreNew changes the results, also behind their ends, and asks again.
func TestGroupResultsAreNew(t *testing.T) {
	table := pairsTable(mapsOf(t, 6, "102 021"), powersTable(0, 2))
	list := []int{0, 6, 8}
	kept, keptList := slices.Clone(table.Product), slices.Clone(list)
	functions := map[string]func() []int{
		"SubgroupOf":              func() []int { return impl.SubgroupOf(table, list) },
		"SubgroupOf of one":       func() []int { return impl.SubgroupOf(table, list[1:2]) },
		"SubgroupOf of none":      func() []int { return impl.SubgroupOf(table, nil) },
		"CosetsOf":                func() []int { return impl.CosetsOf(table, list) },
		"CenterOf":                func() []int { return impl.CenterOf(table) },
		"ConjugatesOf":            func() []int { return impl.ConjugatesOf(table, 2) },
		"CommutatorsOf":           func() []int { return impl.CommutatorsOf(table) },
		"ClassSizes":              func() []int { return impl.ClassSizes(table) },
		"SubgroupOf of subgroups": func() []int { return impl.SubgroupOf(table, impl.SubgroupOf(table, list)) },
	}
	for name, ask := range functions {
		first, second := ask(), ask()
		want := slices.Clone(second)
		fillNumbers(first)
		if len(want) == 0 || !slices.Equal(second, want) || !slices.Equal(ask(), want) || !slices.Equal(table.Product, kept) || !slices.Equal(list, keptList) {
			t.Errorf("a change of the result of %s changed %v, %v, %v or %v, which were %v", name, second, ask(), list, table, want)
		}
	}
}

// TestGroupsAreTheSameEachTime asks several times at once, and with other tables in between.
func TestGroupsAreTheSameEachTime(t *testing.T) {
	groups, others := otherGroups(t), invalidTables()
	var wait sync.WaitGroup
	for n := range 8 {
		wait.Go(func() {
			for i, table := range groups {
				list := []int{(n + i) % table.Size, table.Size - 1}
				want := spannedBySearch(table, list)
				if got := impl.SubgroupOf(table, list); !slices.Equal(got, want) {
					t.Errorf("SubgroupOf(%v, %v) = %v, want %v", table, list, got, want)
				}
				if got := impl.CosetsOf(table, list); !slices.Equal(got, cosetsBySearch(table, want)) {
					t.Errorf("CosetsOf(%v, %v) = %v", table, list, got)
				}
				if got := impl.ClassSizes(table); !slices.Equal(got, classSizesByCounts(table)) {
					t.Errorf("ClassSizes(%v) = %v", table, got)
				}
				callGroups(others[i%len(others)], list)
			}
		})
	}
	wait.Wait()
}
