package tests

import (
	"math"
	"math/rand"
	"runtime"
	"slices"
	"strings"
	"sync"
	"testing"
	"time"

	"loop.example/g03201/impl"
)

// realKinds are the kinds there are, and otherKinds are none.
var realKinds = []int{impl.ClRight, impl.ClLeft, impl.ClBoth, impl.ClEqual}
var otherKinds = []int{0, 5, 6, 7, 8, -1, -2, -3, -4, 1 << 32, 1<<32 + 1, 1<<32 + 4, -1 << 32, math.MaxInt, math.MinInt, math.MinInt + 1}

// bandTable has the places of a field: the product of two is in the row of the first and in the column of the second.
func bandTable(rows, columns int) impl.Table {
	return tableBy(rows*columns+1, func(i, k int) int {
		if i == 0 || k == 0 {
			return i + k
		}
		return (i-1)/columns*columns + (k-1)%columns + 1
	})
}

// mapsOf is the table of the maps that some maps give.
func mapsOf(t *testing.T, size int, maps string) impl.Table {
	t.Helper()
	table, ok := mapsTable(strings.Fields(maps), 40)
	if !ok || table.Size != size {
		t.Fatalf("%q give %d maps, %v, want %d", maps, table.Size, ok, size)
	}
	return table
}

// reachedFrom multiplies i, and all that comes of it, with every element from the right or from the left, until nothing new comes.
func reachedFrom(table impl.Table, i int, right, left bool) []int {
	found := []int{i}
	for n := 0; n < len(found); n++ {
		for y := range table.Size {
			products := []int{table.Product[found[n]*table.Size+y], table.Product[y*table.Size+found[n]]}
			if right && !slices.Contains(found, products[0]) {
				found = append(found, products[0])
			}
			if left && !slices.Contains(found, products[1]) {
				found = append(found, products[1])
			}
		}
	}
	slices.Sort(found)
	return found
}

// relations tells of all elements and kinds what they must be.
type relations struct {
	table  impl.Table
	ideals [4][][]int
}

func relationsOf(table impl.Table) relations {
	r := relations{table: table}
	for i := range table.Size {
		r.ideals[impl.ClRight] = append(r.ideals[impl.ClRight], reachedFrom(table, i, true, false))
		r.ideals[impl.ClLeft] = append(r.ideals[impl.ClLeft], reachedFrom(table, i, false, true))
		r.ideals[impl.ClBoth] = append(r.ideals[impl.ClBoth], reachedFrom(table, i, true, true))
	}
	return r
}

// related asks whether each element is reached from the other one.
func (r relations) related(i, k, kind int) bool {
	if kind == impl.ClEqual {
		return r.related(i, k, impl.ClRight) && r.related(i, k, impl.ClLeft)
	}
	return slices.Contains(r.ideals[kind][i], k) && slices.Contains(r.ideals[kind][k], i)
}

// classes numbers the elements that are related to no less one, and gives each element the number of the least one it is related to.
func (r relations) classes(kind int) ([]int, int) {
	var numbers, leasts []int
	for i := range r.table.Size {
		least := 0
		for !r.related(least, i, kind) {
			least++
		}
		if least == i {
			leasts = append(leasts, i)
		}
		numbers = append(numbers, slices.Index(leasts, least))
	}
	return numbers, len(leasts)
}

func (r relations) isIdempotent(e int) bool {
	return r.table.Product[e*r.table.Size+e] == e
}

// regular are the elements that are related to an idempotent for ClRight.
func (r relations) regular() []int {
	var list []int
	for i := range r.table.Size {
		for e := range r.table.Size {
			if r.isIdempotent(e) && r.related(i, e, impl.ClRight) {
				list = append(list, i)
				break
			}
		}
	}
	return list
}

// common are the elements of all ideals.
func (r relations) common() []int {
	var list []int
	for i := range r.table.Size {
		if !slices.ContainsFunc(r.ideals[impl.ClBoth], func(ideal []int) bool { return !slices.Contains(ideal, i) }) {
			list = append(list, i)
		}
	}
	return list
}

// groupOf are the elements that e leaves as they are and that have a product e, from both sides, with the same element.
func (r relations) groupOf(e int) []int {
	var list []int
	n, product := r.table.Size, r.table.Product
	for i := range n {
		if !r.isIdempotent(e) || product[e*n+i] != i || product[i*n+e] != i {
			continue
		}
		for k := range n {
			if product[i*n+k] == e && product[k*n+i] == e {
				list = append(list, i)
				break
			}
		}
	}
	return list
}

// elementsToTry are all elements of a small table, and some of a great one.
func elementsToTry(size int) []int {
	var list []int
	for i := range size {
		if size <= 8 || i < 2 || i%11 == 5 || i >= size-2 {
			list = append(list, i)
		}
	}
	return list
}

// checkIdeals holds the functions of chapter 10 against a valid table.
func checkIdeals(t *testing.T, table impl.Table) {
	t.Helper()
	r := relationsOf(table)
	if got, want := impl.RegularOf(table), r.regular(); !slices.Equal(got, want) {
		t.Fatalf("RegularOf(%v) = %v, want %v", table, got, want)
	}
	if got, want := impl.LeastIdeal(table), r.common(); !slices.Equal(got, want) {
		t.Fatalf("LeastIdeal(%v) = %v, want %v", table, got, want)
	}
	for _, kind := range realKinds {
		want, wantCount := r.classes(kind)
		if got, count := impl.ClassesOf(table, kind), impl.CountClasses(table, kind); !slices.Equal(got, want) || count != wantCount {
			t.Fatalf("ClassesOf(%v, %d) = %v, which are %d, want %v, %d", table, kind, got, count, want, wantCount)
		}
	}
	for i := range table.Size {
		if got, want := impl.MaximalGroup(table, i), r.groupOf(i); !slices.Equal(got, want) {
			t.Fatalf("MaximalGroup(%v, %d) = %v, want %v", table, i, got, want)
		}
		for _, kind := range realKinds[:3] {
			if got := impl.IdealOf(table, i, kind); !slices.Equal(got, r.ideals[kind][i]) {
				t.Fatalf("IdealOf(%v, %d, %d) = %v, want %v", table, i, kind, got, r.ideals[kind][i])
			}
		}
		if got := impl.IdealOf(table, i, impl.ClEqual); len(got) != 0 {
			t.Fatalf("IdealOf(%v, %d, ClEqual) = %v", table, i, got)
		}
	}
	checkPairsOfElements(t, r)
}

func checkPairsOfElements(t *testing.T, r relations) {
	t.Helper()
	for _, i := range elementsToTry(r.table.Size) {
		for _, k := range elementsToTry(r.table.Size) {
			if got, want := impl.IsBelow(r.table, i, k), slices.Contains(r.ideals[impl.ClBoth][k], i); got != want {
				t.Fatalf("IsBelow(%v, %d, %d) is %v", r.table, i, k, got)
			}
			for _, kind := range realKinds {
				if got, want := impl.AreRelated(r.table, i, k, kind), r.related(i, k, kind); got != want {
					t.Fatalf("AreRelated(%v, %d, %d, %d) is %v", r.table, i, k, kind, got)
				}
			}
		}
	}
}

// checkBoxes holds P4: in a class for ClBoth, each class for ClRight meets each one for ClLeft in a class for ClEqual,
// all of these have as many elements, and those with an idempotent are groups.
func checkBoxes(t *testing.T, table impl.Table) {
	t.Helper()
	right, left, both, equal := impl.ClassesOf(table, impl.ClRight), impl.ClassesOf(table, impl.ClLeft), impl.ClassesOf(table, impl.ClBoth), impl.ClassesOf(table, impl.ClEqual)
	for class := range impl.CountClasses(table, impl.ClBoth) {
		rights, lefts, equals := map[int]bool{}, map[int]bool{}, map[int]int{}
		for i := range table.Size {
			if both[i] == class {
				rights[right[i]], lefts[left[i]] = true, true
				equals[equal[i]]++
			}
		}
		if len(equals) != len(rights)*len(lefts) {
			t.Fatalf("in %v, the class %d has %d rows, %d columns and %d boxes", table, class, len(rights), len(lefts), len(equals))
		}
		for i := range table.Size {
			if both[i] == class && equals[equal[i]] != equals[equal[slices.Index(both, class)]] {
				t.Fatalf("in %v, the boxes of the class %d have different numbers of elements", table, class)
			}
		}
	}
	for _, e := range impl.IdempotentsOf(table) {
		checkGroup(t, table, e)
	}
	for _, i := range elementsToTry(table.Size) {
		ideal := impl.IdealOf(table, i, impl.ClBoth)
		for _, x := range impl.LeastIdeal(table) {
			if !slices.Contains(ideal, x) {
				t.Fatalf("in %v, %d of the least ideal is not in that of %d", table, x, i)
			}
		}
	}
}

// checkGroup asks whether the products of MaximalGroup of e, each element renamed, are those of a group.
func checkGroup(t *testing.T, table impl.Table, e int) {
	t.Helper()
	group := impl.MaximalGroup(table, e)
	if !slices.Contains(group, e) || !slices.IsSorted(group) {
		t.Fatalf("MaximalGroup(%v, %d) = %v", table, e, group)
	}
	names := append([]int{e}, slices.DeleteFunc(slices.Clone(group), func(i int) bool { return i == e })...)
	products := tableBy(len(names), func(i, k int) int {
		return slices.Index(names, table.Product[names[i]*table.Size+names[k]])
	})
	if f := factsOf(products); !tableIsOk(products) || !f.group {
		t.Fatalf("MaximalGroup(%v, %d) = %v is no group", table, e, group)
	}
}

// hasNoIdeals checks that no function of chapter 10 takes the table.
func hasNoIdeals(t *testing.T, table impl.Table) {
	t.Helper()
	if regular, least := impl.RegularOf(table), impl.LeastIdeal(table); len(regular) != 0 || len(least) != 0 {
		t.Errorf("%v has the regular elements %v and the least ideal %v", table, regular, least)
	}
	for _, kind := range slices.Concat(realKinds, otherKinds) {
		hasNoClasses(t, table, kind)
	}
	for _, i := range append(numbersAround(table.Size), 2, 3) {
		hasNoIdealOf(t, table, i)
	}
}

func hasNoClasses(t *testing.T, table impl.Table, kind int) {
	t.Helper()
	if classes, count := impl.ClassesOf(table, kind), impl.CountClasses(table, kind); len(classes) != 0 || count != 0 {
		t.Errorf("ClassesOf(%v, %d) = %v, which are %d", table, kind, classes, count)
	}
}

// hasNoIdealOf checks that no function takes i as an element of the table, whatever the other one is.
func hasNoIdealOf(t *testing.T, table impl.Table, i int) {
	t.Helper()
	if group := impl.MaximalGroup(table, i); len(group) != 0 {
		t.Errorf("MaximalGroup(%v, %d) = %v", table, i, group)
	}
	for _, kind := range append([]int{0, 5, -1}, realKinds...) {
		if ideal := impl.IdealOf(table, i, kind); len(ideal) != 0 {
			t.Errorf("IdealOf(%v, %d, %d) = %v", table, i, kind, ideal)
		}
		for _, k := range []int{i, 0, table.Size - 1, -1} {
			if impl.AreRelated(table, i, k, kind) || impl.AreRelated(table, k, i, kind) {
				t.Errorf("in %v, %d and %d are related for %d", table, i, k, kind)
			}
		}
	}
	for _, k := range []int{i, 0, table.Size - 1, -1} {
		if impl.IsBelow(table, i, k) || impl.IsBelow(table, k, i) {
			t.Errorf("in %v, %d and %d are one below the other", table, i, k)
		}
	}
}

func TestKindConstants(t *testing.T) {
	if impl.ClRight != 1 || impl.ClLeft != 2 || impl.ClBoth != 3 || impl.ClEqual != 4 {
		t.Errorf("the kinds are %v", realKinds)
	}
}

func TestTablesWithoutIdeals(t *testing.T) {
	for _, table := range invalidTables() {
		hasNoIdeals(t, table)
	}
	for size := 1; size <= 42; size++ {
		for _, table := range []impl.Table{powersTable(0, size), firstTable(size), leastTable(size)} {
			if size > 40 {
				hasNoIdeals(t, table)
				continue
			}
			if len(impl.RegularOf(table)) != size || len(impl.IdealOf(table, 0, impl.ClLeft)) != size || len(impl.LeastIdeal(table)) == 0 {
				t.Errorf("%v has the regular elements %v, the ideal %v of 0 and the least ideal %v", table, impl.RegularOf(table), impl.IdealOf(table, 0, impl.ClLeft), impl.LeastIdeal(table))
			}
		}
	}
	for _, i := range []int{0, 1, 2} {
		for _, x := range []int{-1, 3, math.MinInt, 1 << 62} {
			hasNoIdeals(t, changed(powersTable(1, 2), 2, i, x))
		}
	}
}

// TestElementsAndKindsThatAreNone asks valid tables for other elements and other kinds.
func TestElementsAndKindsThatAreNone(t *testing.T) {
	for _, table := range append(someTables(), bandTable(2, 3)) {
		for _, i := range numbersAround(table.Size) {
			if i < 0 || i >= table.Size {
				hasNoIdealOf(t, table, i)
			}
		}
		for _, kind := range otherKinds {
			hasNoClasses(t, table, kind)
			for _, i := range []int{0, table.Size / 2, table.Size - 1} {
				if ideal := impl.IdealOf(table, i, kind); len(ideal) != 0 {
					t.Errorf("IdealOf(%v, %d, %d) = %v", table, i, kind, ideal)
				}
				if impl.AreRelated(table, i, i, kind) || impl.AreRelated(table, i, 0, kind) {
					t.Errorf("in %v, %d is related to itself or to 0 for %d", table, i, kind)
				}
			}
		}
	}
}

func TestIdealOf(t *testing.T) {
	cases := []struct {
		table             impl.Table
		i                 int
		right, left, both []int
	}{
		{tableOf(1, 0), 0, []int{0}, []int{0}, []int{0}},
		{powersTable(0, 4), 0, []int{0, 1, 2, 3}, []int{0, 1, 2, 3}, []int{0, 1, 2, 3}}, {powersTable(0, 4), 3, []int{0, 1, 2, 3}, []int{0, 1, 2, 3}, []int{0, 1, 2, 3}},
		{powersTable(3, 2), 0, []int{0, 1, 2, 3, 4}, []int{0, 1, 2, 3, 4}, []int{0, 1, 2, 3, 4}}, {powersTable(3, 2), 2, []int{2, 3, 4}, []int{2, 3, 4}, []int{2, 3, 4}}, {powersTable(3, 2), 4, []int{3, 4}, []int{3, 4}, []int{3, 4}},
		// The sides differ.
		{firstTable(4), 0, []int{0, 1, 2, 3}, []int{0, 1, 2, 3}, []int{0, 1, 2, 3}}, {firstTable(4), 2, []int{2}, []int{1, 2, 3}, []int{1, 2, 3}}, {turnedTable(firstTable(4)), 2, []int{1, 2, 3}, []int{2}, []int{1, 2, 3}},
		{bandTable(2, 3), 1, []int{1, 2, 3}, []int{1, 4}, []int{1, 2, 3, 4, 5, 6}}, {bandTable(2, 3), 6, []int{4, 5, 6}, []int{3, 6}, []int{1, 2, 3, 4, 5, 6}},
		{changed(nullTable(5, 1), 4, 3, 2), 4, []int{1, 2, 4}, []int{1, 4}, []int{1, 2, 4}}, {changed(nullTable(5, 1), 4, 3, 2), 3, []int{1, 3}, []int{1, 2, 3}, []int{1, 2, 3}},
		// The ideal of both sides has more than both have together: first the one side, then the other one.
		{withZero(bandTable(2, 2)), 4, []int{3, 4, 5}, []int{2, 4, 5}, []int{1, 2, 3, 4, 5}},
		// A zero.
		{withZero(firstTable(3)), 1, []int{1, 3}, []int{1, 2, 3}, []int{1, 2, 3}}, {withZero(firstTable(3)), 3, []int{3}, []int{3}, []int{3}}, {leastTable(40), 39, numbersFrom(1, 39), numbersFrom(1, 39), numbersFrom(1, 39)},
		{nullTable(40, 20), 39, []int{20, 39}, []int{20, 39}, []int{20, 39}}, {nullTable(40, 20), 20, []int{20}, []int{20}, []int{20}},
	}
	for _, c := range cases {
		for kind, want := range map[int][]int{impl.ClRight: c.right, impl.ClLeft: c.left, impl.ClBoth: c.both, impl.ClEqual: nil} {
			if got := impl.IdealOf(c.table, c.i, kind); !slices.Equal(got, want) {
				t.Errorf("IdealOf(%v, %d, %d) = %v, want %v", c.table, c.i, kind, got, want)
			}
		}
		checkIdeals(t, c.table)
	}
}

// numbersFrom has the numbers from one to another.
func numbersFrom(from, to int) []int {
	var list []int
	for i := from; i <= to; i++ {
		list = append(list, i)
	}
	return list
}

func TestAreRelated(t *testing.T) {
	six := mapsOf(t, 6, "102 021")
	cases := []struct {
		table                    impl.Table
		i, k                     int
		right, left, both, equal bool
	}{
		// An element and itself.
		{tableOf(1, 0), 0, 0, true, true, true, true}, {bandTable(2, 2), 3, 3, true, true, true, true}, {nullTable(4, 3), 2, 2, true, true, true, true}, {powersTable(39, 1), 38, 38, true, true, true, true},
		// Elements of a group, also of one in a greater table.
		{powersTable(0, 40), 0, 39, true, true, true, true}, {six, 1, 4, true, true, true, true}, {withZero(six), 2, 5, true, true, true, true}, {powersTable(3, 3), 3, 5, true, true, true, true},
		// From one side alone.
		{bandTable(2, 3), 1, 3, true, false, true, false}, {bandTable(2, 3), 1, 4, false, true, true, false}, {firstTable(3), 1, 2, false, true, true, false}, {turnedTable(firstTable(3)), 1, 2, true, false, true, false},
		// From both sides, one after the other.
		{bandTable(2, 3), 1, 5, false, false, true, false}, {bandTable(2, 3), 3, 4, false, false, true, false}, {withZero(bandTable(2, 2)), 2, 3, false, false, true, false},
		// In no way, though the one is below the other.
		{powersTable(1, 1), 0, 1, false, false, false, false}, {powersTable(39, 1), 38, 39, false, false, false, false}, {withZero(six), 0, 6, false, false, false, false}, {leastTable(40), 38, 39, false, false, false, false}, {bandTable(2, 3), 0, 1, false, false, false, false},
		// In no way, and none is below the other, with as many elements in their ideals.
		{nullTable(5, 1), 2, 3, false, false, false, false}, {nullTable(40, 1), 38, 39, false, false, false, false},
	}
	for _, c := range cases {
		for kind, want := range map[int]bool{impl.ClRight: c.right, impl.ClLeft: c.left, impl.ClBoth: c.both, impl.ClEqual: c.equal, 0: false, 5: false, -1: false} {
			if impl.AreRelated(c.table, c.i, c.k, kind) != want || impl.AreRelated(c.table, c.k, c.i, kind) != want {
				t.Errorf("AreRelated(%v, %d, %d, %d) is not %v", c.table, c.i, c.k, kind, want)
			}
		}
		checkIdeals(t, c.table)
	}
}

func TestClassesOf(t *testing.T) {
	ordinary := withZero(powersTable(0, 3))
	cases := []struct {
		table impl.Table
		kind  int
		want  []int
	}{
		{tableOf(1, 0), impl.ClRight, []int{0}}, {tableOf(1, 0), impl.ClEqual, []int{0}}, {powersTable(0, 4), impl.ClRight, []int{0, 0, 0, 0}}, {powersTable(0, 4), impl.ClBoth, []int{0, 0, 0, 0}},
		{powersTable(2, 2), impl.ClEqual, []int{0, 1, 2, 2}}, {powersTable(3, 1), impl.ClLeft, []int{0, 1, 2, 3}}, {ordinary, impl.ClBoth, []int{0, 0, 0, 1}},
		// The numbers follow the least elements, not the sizes or the order of the ideals.
		{renamed(ordinary, []int{0, 3, 2, 1}), impl.ClEqual, []int{0, 1, 0, 0}}, {renamed(powersTable(2, 3), []int{0, 4, 2, 1, 3}), impl.ClBoth, []int{0, 1, 1, 1, 2}}, {renamed(bandTable(2, 2), []int{0, 1, 4, 3, 2}), impl.ClRight, []int{0, 1, 2, 2, 1}},
		{bandTable(2, 3), impl.ClRight, []int{0, 1, 1, 1, 2, 2, 2}}, {bandTable(2, 3), impl.ClLeft, []int{0, 1, 2, 3, 1, 2, 3}}, {bandTable(2, 3), impl.ClBoth, []int{0, 1, 1, 1, 1, 1, 1}}, {bandTable(2, 3), impl.ClEqual, []int{0, 1, 2, 3, 4, 5, 6}},
		{firstTable(4), impl.ClRight, []int{0, 1, 2, 3}}, {firstTable(4), impl.ClLeft, []int{0, 1, 1, 1}}, {turnedTable(firstTable(4)), impl.ClRight, []int{0, 1, 1, 1}}, {turnedTable(firstTable(4)), impl.ClLeft, []int{0, 1, 2, 3}},
		{pairsTable(powersTable(0, 2), firstTable(3)), impl.ClEqual, []int{0, 1, 2, 0, 1, 2}}, {leastTable(40), impl.ClBoth, numbersFrom(0, 39)}, {nullTable(40, 7), impl.ClEqual, numbersFrom(0, 39)},
	}
	for _, c := range cases {
		if got, count := impl.ClassesOf(c.table, c.kind), impl.CountClasses(c.table, c.kind); !slices.Equal(got, c.want) || count != slices.Max(c.want)+1 {
			t.Errorf("ClassesOf(%v, %d) = %v, which are %d, want %v", c.table, c.kind, got, count, c.want)
		}
		checkIdeals(t, c.table)
	}
}

// TestRegularElementsAndLeastIdeals has powers: those that do not come again are not regular.
func TestRegularElementsAndLeastIdeals(t *testing.T) {
	six := mapsOf(t, 6, "102 021")
	cases := []struct {
		table          impl.Table
		regular, least []int
	}{
		{tableOf(1, 0), []int{0}, []int{0}}, {powersTable(0, 5), []int{0, 1, 2, 3, 4}, []int{0, 1, 2, 3, 4}}, {six, []int{0, 1, 2, 3, 4, 5}, []int{0, 1, 2, 3, 4, 5}}, {powersTable(0, 40), numbersFrom(0, 39), numbersFrom(0, 39)},
		{powersTable(1, 1), []int{0, 1}, []int{1}}, {powersTable(3, 1), []int{0, 3}, []int{3}}, {powersTable(3, 4), []int{0, 3, 4, 5, 6}, []int{3, 4, 5, 6}}, {powersTable(38, 2), []int{0, 38, 39}, []int{38, 39}}, {powersTable(39, 1), []int{0, 39}, []int{39}},
		{nullTable(5, 2), []int{0, 2}, []int{2}}, {nullTable(40, 39), []int{0, 39}, []int{39}}, {leastTable(40), numbersFrom(0, 39), []int{1}}, {withZero(six), numbersFrom(0, 6), []int{6}}, {renamed(withZero(powersTable(0, 4)), []int{0, 4, 1, 3, 2}), numbersFrom(0, 4), []int{2}},
		{firstTable(4), numbersFrom(0, 3), []int{1, 2, 3}}, {bandTable(2, 3), numbersFrom(0, 6), numbersFrom(1, 6)}, {withZero(bandTable(2, 3)), numbersFrom(0, 7), []int{7}}, {renamed(powersTable(2, 2), []int{0, 3, 2, 1}), []int{0, 1, 2}, []int{1, 2}},
		{pairsTable(powersTable(0, 2), powersTable(1, 1)), []int{0, 1, 2, 3}, []int{1, 3}}, {pairsTable(powersTable(2, 1), powersTable(0, 2)), []int{0, 1, 4, 5}, []int{4, 5}}, {changed(nullTable(5, 1), 4, 3, 2), []int{0, 1}, []int{1}},
		// 2 and 3 are no idempotents, but 2, 3 and 2 give 2, and 3, 2 and 3 give 3.
		{brandtTable(), []int{0, 1, 2, 3, 4, 5}, []int{1}},
	}
	for _, c := range cases {
		if got := impl.RegularOf(c.table); !slices.Equal(got, c.regular) {
			t.Errorf("RegularOf(%v) = %v, want %v", c.table, got, c.regular)
		}
		if got := impl.LeastIdeal(c.table); !slices.Equal(got, c.least) {
			t.Errorf("LeastIdeal(%v) = %v, want %v", c.table, got, c.least)
		}
		checkIdeals(t, c.table)
		checkBoxes(t, c.table)
	}
}

// brandtTable has the zero 1, and the steps 2 from left to right, 3 from right to left, 4 on the left and 5 on the right:
// two of them have a product if the second begins where the first ends.
func brandtTable() impl.Table {
	steps := []string{"", "", "lr", "rl", "ll", "rr"}
	return tableBy(6, func(i, k int) int {
		if i == 0 || k == 0 {
			return i + k
		}
		if i == 1 || k == 1 || steps[i][1] != steps[k][0] {
			return 1
		}
		return slices.Index(steps, steps[i][:1]+steps[k][1:])
	})
}

func TestIsBelow(t *testing.T) {
	cases := []struct {
		table        impl.Table
		i, k         int
		below, above bool
	}{
		{tableOf(1, 0), 0, 0, true, true}, {powersTable(0, 40), 39, 1, true, true}, {powersTable(1, 1), 1, 0, true, false}, {powersTable(39, 1), 39, 38, true, false}, {powersTable(39, 1), 7, 6, true, false}, {powersTable(30, 10), 39, 30, true, true},
		{leastTable(40), 1, 39, true, false}, {leastTable(40), 38, 39, true, false}, {leastTable(40), 39, 0, true, false}, {nullTable(5, 2), 2, 4, true, false}, {nullTable(5, 2), 3, 4, false, false}, {nullTable(5, 2), 3, 3, true, true},
		// Below from one side alone, and from both sides alone.
		{firstTable(3), 1, 2, true, true}, {bandTable(2, 2), 1, 2, true, true}, {bandTable(2, 2), 1, 3, true, true}, {bandTable(2, 2), 1, 4, true, true}, {changed(nullTable(5, 1), 4, 3, 2), 2, 4, true, false}, {changed(nullTable(5, 1), 4, 3, 2), 2, 3, true, false},
		{changed(nullTable(5, 1), 4, 3, 2), 3, 4, false, false}, {brandtTable(), 2, 3, true, true}, {brandtTable(), 1, 3, true, false},
	}
	for _, c := range cases {
		if below, above := impl.IsBelow(c.table, c.i, c.k), impl.IsBelow(c.table, c.k, c.i); below != c.below || above != c.above {
			t.Errorf("in %v, %d is below %d: %v, and above: %v, want %v and %v", c.table, c.i, c.k, below, above, c.below, c.above)
		}
	}
}

func TestMaximalGroup(t *testing.T) {
	six := mapsOf(t, 6, "102 021")
	cases := []struct {
		table impl.Table
		e     int
		want  []int
	}{
		// The identity: the units.
		{tableOf(1, 0), 0, []int{0}}, {powersTable(0, 5), 0, []int{0, 1, 2, 3, 4}}, {powersTable(0, 40), 0, numbersFrom(0, 39)}, {six, 0, numbersFrom(0, 5)}, {withZero(six), 0, numbersFrom(0, 5)}, {leastTable(40), 0, []int{0}},
		{renamed(withZero(powersTable(0, 4)), []int{0, 4, 1, 3, 2}), 0, []int{0, 1, 3, 4}},
		// Other idempotents.
		{withZero(six), 6, []int{6}}, {powersTable(1, 1), 1, []int{1}}, {powersTable(2, 3), 3, []int{2, 3, 4}}, {powersTable(1, 39), 39, numbersFrom(1, 39)}, {powersTable(20, 20), 20, numbersFrom(20, 39)}, {leastTable(40), 39, []int{39}}, {firstTable(4), 2, []int{2}},
		{bandTable(2, 3), 5, []int{5}}, {pairsTable(powersTable(0, 3), firstTable(3)), 1, []int{1, 4, 7}}, {pairsTable(powersTable(1, 1), powersTable(0, 3)), 3, []int{3, 4, 5}}, {brandtTable(), 4, []int{4}}, {brandtTable(), 1, []int{1}},
		// No idempotents, in groups and elsewhere.
		{powersTable(0, 5), 1, nil}, {powersTable(0, 40), 39, nil}, {six, 3, nil}, {powersTable(2, 3), 1, nil}, {powersTable(2, 3), 2, nil}, {powersTable(2, 3), 4, nil}, {nullTable(40, 39), 38, nil}, {brandtTable(), 2, nil}, {pairsTable(powersTable(0, 3), firstTable(3)), 4, nil},
	}
	for _, c := range cases {
		if got := impl.MaximalGroup(c.table, c.e); !slices.Equal(got, c.want) {
			t.Errorf("MaximalGroup(%v, %d) = %v, want %v", c.table, c.e, got, c.want)
		}
		checkIdeals(t, c.table)
		checkBoxes(t, c.table)
	}
}

// TestKnownOrders has monoids of which the numbers of all classes, and the orders of the groups around idempotents, are known.
func TestKnownOrders(t *testing.T) {
	cases := []struct {
		table                    impl.Table
		right, left, both, equal int
		regular, least           int
		// How often a group has an order.
		orders map[int]int
	}{
		// All maps of two and of three points: from the right, those with equal values at the same points, from the left, those with the same values.
		{mapsOf(t, 4, "10 00"), 2, 3, 2, 3, 4, 2, map[int]int{2: 1, 1: 2}},
		{mapsOf(t, 27, "102 120 001"), 5, 7, 3, 13, 27, 3, map[int]int{6: 1, 2: 6, 1: 3}},
		{turnedTable(mapsOf(t, 27, "102 120 001")), 7, 5, 3, 13, 27, 3, map[int]int{6: 1, 2: 6, 1: 3}},
		// The maps of four points that keep the order.
		{mapsOf(t, 35, "1123 0223 0133 0023 0113 0122"), 8, 15, 4, 35, 35, 4, map[int]int{1: 21}},
		// The maps of parts of three points that give different points different ones: the last point stands for none.
		{mapsOf(t, 34, "1023 1203 0133"), 8, 8, 4, 20, 34, 1, map[int]int{6: 1, 2: 3, 1: 4}},
		// The matrices of two rows and two columns of numbers modulo 2.
		{mapsOf(t, 16, "0213 0132 0022"), 5, 5, 3, 11, 16, 1, map[int]int{6: 1, 1: 7}},
		// Groups.
		{mapsOf(t, 24, "1023 1230"), 1, 1, 1, 1, 24, 24, map[int]int{24: 1}}, {mapsOf(t, 8, "1230 0321"), 1, 1, 1, 1, 8, 8, map[int]int{8: 1}}, {pairsTable(powersTable(0, 5), powersTable(0, 8)), 1, 1, 1, 1, 40, 40, map[int]int{40: 1}},
		// Numbers modulo 30 and modulo 36: those with the same greatest common divisor with 30 or 36 are related.
		{numbersTable(30), 8, 8, 8, 8, 30, 1, map[int]int{8: 2, 4: 2, 2: 2, 1: 2}}, {numbersTable(36), 9, 9, 9, 9, 21, 1, map[int]int{12: 1, 6: 1, 2: 1, 1: 1}},
		{bandTable(3, 13), 4, 14, 2, 40, 40, 39, map[int]int{1: 40}}, {bandTable(13, 3), 14, 4, 2, 40, 40, 39, map[int]int{1: 40}}, {pairsTable(powersTable(0, 4), bandTable(3, 3)), 4, 4, 2, 10, 40, 36, map[int]int{4: 10}},
	}
	for _, c := range cases {
		var counts []int
		for _, kind := range realKinds {
			counts = append(counts, impl.CountClasses(c.table, kind))
		}
		if !slices.Equal(counts, []int{c.right, c.left, c.both, c.equal}) {
			t.Errorf("%v has %v classes, want %v", c.table, counts, c)
		}
		if regular, least := len(impl.RegularOf(c.table)), len(impl.LeastIdeal(c.table)); regular != c.regular || least != c.least {
			t.Errorf("%v has %d regular elements and %d in its least ideal, want %d and %d", c.table, regular, least, c.regular, c.least)
		}
		orders := map[int]int{}
		for _, e := range impl.IdempotentsOf(c.table) {
			orders[len(impl.MaximalGroup(c.table, e))]++
		}
		for n := range 41 {
			if orders[n] != c.orders[n] {
				t.Errorf("%v has %d groups with %d elements, want %d", c.table, orders[n], n, c.orders[n])
			}
		}
		checkIdeals(t, c.table)
		checkBoxes(t, c.table)
	}
}

// numbersTable has the products of numbers modulo n, of which 0 and 1 change their names.
func numbersTable(n int) impl.Table {
	names := append([]int{1, 0}, numbersFrom(2, n-1)...)
	return tableBy(n, func(i, k int) int { return names[names[i]*names[k]%n] })
}

func TestIdealsOfManyTables(t *testing.T) {
	for _, table := range someTables() {
		checkIdeals(t, table)
		checkBoxes(t, table)
	}
	for size := 1; size <= 4; size++ {
		allTables(size, 0, size-1, true, func(table impl.Table) {
			if tableIsOk(table) {
				checkIdeals(t, table)
				checkBoxes(t, table)
			}
		})
	}
	// Tables of five and six elements, also under other numbers and turned.
	for _, table := range []impl.Table{bandTable(2, 2), firstTable(5), withZero(firstTable(4)), pairsTable(firstTable(2), firstTable(3))} {
		for _, names := range [][]int{{0, 1, 2, 3, 4, 5}, {0, 4, 3, 2, 1, 5}, {0, 2, 3, 4, 1, 5}} {
			checkIdeals(t, renamed(table, names))
			checkIdeals(t, turnedTable(renamed(table, names)))
		}
	}
}

// TestIdealsOfDrawnTables draws the same tables each time.
func TestIdealsOfDrawnTables(t *testing.T) {
	r := rand.New(rand.NewSource(11))
	sidesDiffer, someIrregular, great, moreThanEqual := 0, 0, 0, 0
	for range 500 {
		table := drawnTable(r)
		checkIdeals(t, table)
		checkBoxes(t, table)
		if impl.CountClasses(table, impl.ClRight) != impl.CountClasses(table, impl.ClLeft) {
			sidesDiffer++
		}
		if impl.CountClasses(table, impl.ClBoth) < min(impl.CountClasses(table, impl.ClRight), impl.CountClasses(table, impl.ClLeft)) {
			moreThanEqual++
		}
		if len(impl.RegularOf(table)) < table.Size {
			someIrregular++
		}
		if table.Size > 20 {
			great++
		}
	}
	if sidesDiffer < 50 || someIrregular < 50 || great < 20 || moreThanEqual < 20 {
		t.Errorf("the sides differ in %d tables, %d have elements that are not regular, %d are great, %d have boxes of both sides", sidesDiffer, someIrregular, great, moreThanEqual)
	}
}

// formsReached adds letters to a word, behind it or before it, until no new reduced word comes.
func formsReached(s impl.System, w string, behind, before bool) []string {
	found := []string{w}
	for n := 0; n < len(found); n++ {
		for x := range s.Letters {
			letter := string(rune('a' + x))
			first, _ := impl.NormalForm(s, found[n]+letter)
			second, _ := impl.NormalForm(s, letter+found[n])
			if behind && !slices.Contains(found, first) {
				found = append(found, first)
			}
			if before && !slices.Contains(found, second) {
				found = append(found, second)
			}
		}
	}
	return found
}

// TestIdealsAreReachedByWords holds ideals against words: those with letters behind, before, or on both sides.
func TestIdealsAreReachedByWords(t *testing.T) {
	for _, s := range elementSystems(t) {
		table, words, ok := impl.MonoidOf(s)
		if !ok {
			t.Fatalf("%#v has no monoid", s)
		}
		for i, w := range words {
			for _, kind := range realKinds[:3] {
				var want []int
				for _, v := range formsReached(s, w, kind != impl.ClLeft, kind != impl.ClRight) {
					want = append(want, slices.Index(words, v))
				}
				slices.Sort(want)
				if got := impl.IdealOf(table, i, kind); !slices.Equal(got, want) {
					t.Fatalf("with %#v, IdealOf %q for %d is %v, want %v", s, w, kind, got, want)
				}
			}
		}
		checkIdeals(t, table)
		checkBoxes(t, table)
	}
}

// callIdeals calls every function of chapter 10.
func callIdeals(table impl.Table) {
	impl.RegularOf(table)
	impl.LeastIdeal(table)
	for _, kind := range slices.Concat(realKinds, otherKinds[:5]) {
		impl.ClassesOf(table, kind)
		impl.CountClasses(table, kind)
		for _, i := range []int{-1, 0, 1, table.Size - 1, table.Size, math.MaxInt} {
			impl.IdealOf(table, i, kind)
			impl.AreRelated(table, i, 0, kind)
			impl.AreRelated(table, 0, i, kind)
			impl.IsBelow(table, i, 0)
			impl.IsBelow(table, 0, i)
			impl.MaximalGroup(table, i)
		}
	}
}

// TestIdealArgumentsAreKept holds chapter 1 against the functions of chapter 10.
func TestIdealArgumentsAreKept(t *testing.T) {
	for _, table := range append(someTables(), invalidTables()...) {
		whole := append(slices.Clone(table.Product), -7, -8, -9)
		before := slices.Clone(whole)
		callIdeals(tableOf(table.Size, whole[:len(table.Product)]...))
		if !slices.Equal(whole, before) {
			t.Errorf("the products of %v became %v", table, whole)
		}
	}
}

// TestIdealResultsAreNew changes the results, also behind their ends, and asks again.
func TestIdealResultsAreNew(t *testing.T) {
	table := withZero(pairsTable(powersTable(0, 2), firstTable(3)))
	kept := slices.Clone(table.Product)
	functions := map[string]func() []int{
		"IdealOf for ClRight": func() []int { return impl.IdealOf(table, 1, impl.ClRight) },
		"IdealOf for ClLeft":  func() []int { return impl.IdealOf(table, 1, impl.ClLeft) },
		"IdealOf for ClBoth":  func() []int { return impl.IdealOf(table, 0, impl.ClBoth) },
		"ClassesOf":           func() []int { return impl.ClassesOf(table, impl.ClEqual) },
		"RegularOf":           func() []int { return impl.RegularOf(table) },
		"LeastIdeal":          func() []int { return impl.LeastIdeal(table) },
		"MaximalGroup":        func() []int { return impl.MaximalGroup(table, 2) },
	}
	for name, ask := range functions {
		first, second := ask(), ask()
		want := slices.Clone(second)
		fillNumbers(first)
		if len(want) == 0 || !slices.Equal(second, want) || !slices.Equal(ask(), want) || !slices.Equal(table.Product, kept) {
			t.Errorf("a change of the result of %s changed %v, %v or %v, which were %v", name, second, ask(), table, want)
		}
	}
}

// TestIdealsAreTheSameEachTime asks several times at once, and leaves nothing behind that runs.
func TestIdealsAreTheSameEachTime(t *testing.T) {
	before := runtime.NumGoroutine()
	tables := append(someTables(), bandTable(3, 13), brandtTable())
	var wait sync.WaitGroup
	for range 8 {
		wait.Go(func() {
			for _, table := range tables {
				r := relationsOf(table)
				last := table.Size - 1
				for kind, want := range r.ideals[1:] {
					if got := impl.IdealOf(table, last, kind+1); !slices.Equal(got, want[last]) {
						t.Errorf("IdealOf(%v, %d, %d) = %v, want %v", table, last, kind+1, got, want[last])
					}
				}
				for _, kind := range realKinds {
					if want, _ := r.classes(kind); !slices.Equal(impl.ClassesOf(table, kind), want) {
						t.Errorf("ClassesOf(%v, %d) = %v, want %v", table, kind, impl.ClassesOf(table, kind), want)
					}
				}
			}
		})
	}
	wait.Wait()
	for _, table := range invalidTables() {
		callIdeals(table)
	}
	// What is joined may still be on its way out.
	for range 200 {
		if runtime.NumGoroutine() <= before {
			return
		}
		time.Sleep(time.Millisecond)
	}
	t.Errorf("%d goroutines became %d", before, runtime.NumGoroutine())
}
