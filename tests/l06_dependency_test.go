package tests

import (
	"math"
	"math/bits"
	"math/rand"
	"slices"
	"strings"
	"testing"

	"loop.example/g01988/impl"
)

// Promise 4, for single dependencies: a dependency holds exactly if no rows have to be removed, a witness violates it, and removing fewer rows than stated never makes it hold.
// Promises 2 and 3 too: dependencies can be parsed from their string formats alone, and agree with the agree sets and the partitions of their table.

// depsOf are all dependencies of so many columns.
func depsOf(columns int) []impl.Dep {
	var all []impl.Dep
	for left := range 1 << columns {
		for right := range columns {
			all = append(all, impl.Dep{Left: left, Right: right})
		}
	}
	return all
}

// badDepsOf are dependencies with one side or both that so many columns do not have.
func badDepsOf(columns int) []impl.Dep {
	badLeft := []int{math.MinInt, -2, -1, 1 << columns, 1<<columns | 1, 64, 1 << 32, math.MaxInt}
	badRight := []int{math.MinInt, -64, -1, columns, columns + 1, 64, 1 << 32, math.MaxInt}
	var all []impl.Dep
	for _, left := range badLeft {
		all = append(all, impl.Dep{Left: left, Right: 0}, impl.Dep{Left: left, Right: columns})
	}
	for _, right := range badRight {
		all = append(all, impl.Dep{Left: 0, Right: right}, impl.Dep{Left: 1, Right: right}, impl.Dep{Left: -1, Right: right})
	}
	return all
}

// slowViolated compares two rows cell by cell.
func slowViolated(t impl.Table, mode int, d impl.Dep, i, k int) bool {
	for column := range t.Columns {
		if d.Left>>column&1 == 1 && !slowEqual(mode, t.Rows[i][column], t.Rows[k][column]) {
			return false
		}
	}
	return !slowEqual(mode, t.Rows[i][d.Right], t.Rows[k][d.Right])
}

func slowWitness(t impl.Table, mode int, d impl.Dep) (int, int, bool) {
	for i := range t.Rows {
		for k := range t.Rows {
			if i < k && slowViolated(t, mode, d, i, k) {
				return i, k, true
			}
		}
	}
	return -1, -1, false
}

// withoutRows is the table without the rows whose bits are set in a choice.
func withoutRows(t impl.Table, choice int) impl.Table {
	rest := tableOf(t.Columns)
	for place, row := range t.Rows {
		if choice>>place&1 == 0 {
			rest.Rows = append(rest.Rows, row)
		}
	}
	return rest
}

// slowRemoved tries every choice of rows.
func slowRemoved(t impl.Table, mode int, d impl.Dep) int {
	least := len(t.Rows)
	for choice := range 1 << len(t.Rows) {
		if _, _, found := slowWitness(withoutRows(t, choice), mode, d); !found {
			least = min(least, bits.OnesCount(uint(choice)))
		}
	}
	return least
}

// removedOfClasses keeps the largest part of each class of Left that is a class together with Right, or one row of it.
func removedOfClasses(t impl.Table, mode int, d impl.Dep) int {
	whole, parts := slowPartition(t, mode, d.Left), slowPartition(t, mode, d.Left|1<<d.Right)
	removed := 0
	for _, class := range whole {
		kept := 1
		for _, part := range parts {
			if slices.Contains(class, part[0]) {
				kept = max(kept, len(part))
			}
		}
		removed += len(class) - kept
	}
	return removed
}

// checkDep compares what the three functions say with what is expected.
func checkDep(t *testing.T, table impl.Table, mode int, d impl.Dep, i, k, removed int) {
	t.Helper()
	if got, want := impl.HoldsDep(table, mode, d), removed == 0; got != want {
		t.Fatalf("HoldsDep(%v, %d, %v) = %v, want %v", table, mode, d, got, want)
	}
	a, b, found := impl.WitnessOf(table, mode, d)
	if a != i || b != k || found != (removed > 0) {
		t.Fatalf("WitnessOf(%v, %d, %v) = %d, %d, %v, want %d, %d", table, mode, d, a, b, found, i, k)
	}
	if got := impl.RowsToRemove(table, mode, d); got != removed {
		t.Fatalf("RowsToRemove(%v, %d, %v) = %d, want %d", table, mode, d, got, removed)
	}
}

// checkInvalid expects that the functions say so.
func checkInvalid(t *testing.T, table impl.Table, mode int, d impl.Dep) {
	t.Helper()
	if impl.HoldsDep(table, mode, d) {
		t.Fatalf("HoldsDep(%v, %d, %v) = true", table, mode, d)
	}
	if i, k, found := impl.WitnessOf(table, mode, d); i != -1 || k != -1 || found {
		t.Fatalf("WitnessOf(%v, %d, %v) = %d, %d, %v, want -1, -1, false", table, mode, d, i, k, found)
	}
	if got := impl.RowsToRemove(table, mode, d); got != -1 {
		t.Fatalf("RowsToRemove(%v, %d, %v) = %d, want -1", table, mode, d, got)
	}
}

// someTables are every fourth of the tables of the agree sets: few enough to try all dependencies of each.
func someTables() []impl.Table {
	var some []impl.Table
	for at, table := range agreeTables() {
		if at%4 == 0 || at < len(textOfTable) {
			some = append(some, table)
		}
	}
	return some
}

// smallTable has at most so many rows of few different values, so that many of them are equal.
func smallTable(r *rand.Rand, rows int) impl.Table {
	t := tableOf(1 + r.Intn(3))
	for range r.Intn(rows + 1) {
		row := make([]int, t.Columns)
		for i := range row {
			row[i] = r.Intn(4) - 1
		}
		t.Rows = append(t.Rows, row)
	}
	return t
}

// tinyTables are all tables of two columns and at most three rows of null, 0 and 1.
func tinyTables() []impl.Table {
	all := []impl.Table{tableOf(2)}
	for at := 0; len(all[at].Rows) < 3; at++ {
		for a := null; a <= 1; a++ {
			for b := null; b <= 1; b++ {
				all = append(all, tableOf(2, append(slices.Clone(all[at].Rows), []int{a, b})...))
			}
		}
	}
	return all
}

func TestIsDep(t *testing.T) {
	greatest := map[int]int{1: 1, 2: 3, 3: 7, 4: 15, 5: 31}
	for n := -1; n <= 6; n++ {
		for left := -1; left <= 65; left++ {
			for right := -1; right <= 7; right++ {
				d := impl.Dep{Left: left, Right: right}
				want := n >= 1 && n <= 5 && left >= 0 && left <= greatest[n] && right >= 0 && right < n
				if got := impl.IsDep(n, d); got != want {
					t.Errorf("IsDep(%d, %v) = %v, want %v", n, d, got, want)
				}
			}
		}
	}
	for _, d := range []impl.Dep{{Left: 0, Right: 0}, {Left: 1, Right: 0}, {Left: 31, Right: 4}, {Left: 16, Right: 4}} {
		if !impl.IsDep(5, d) {
			t.Errorf("IsDep(5, %v) = false", d)
		}
	}
}

func TestIsDepInvalid(t *testing.T) {
	for n := 1; n <= 5; n++ {
		for _, d := range badDepsOf(n) {
			if impl.IsDep(n, d) {
				t.Errorf("IsDep(%d, %v) = true", n, d)
			}
		}
		for _, left := range invalidSets {
			if d := (impl.Dep{Left: left}); impl.IsDep(n, d) {
				t.Errorf("IsDep(%d, %v) = true", n, d)
			}
		}
	}
	for _, n := range append([]int{0}, badColumnCounts...) {
		for _, d := range append(depsOf(5), badDepsOf(5)...) {
			if impl.IsDep(n, d) {
				t.Errorf("IsDep(%d, %v) = true", n, d)
			}
		}
	}
}

func TestDepsOfOneTable(t *testing.T) {
	// The columns are a person, a city, a code of the city and a country.
	table := tableOf(4, []int{0, 0, 0, 0}, []int{1, 0, 1, 0}, []int{2, 1, 2, 0}, []int{3, 0, 0, 0})
	cases := []struct {
		d             impl.Dep
		i, k, removed int
	}{
		{impl.Dep{Left: 1, Right: 1}, -1, -1, 0},
		{impl.Dep{Left: 1, Right: 2}, -1, -1, 0},
		{impl.Dep{Left: 4, Right: 1}, -1, -1, 0},
		{impl.Dep{Left: 2, Right: 2}, 0, 1, 1},
		{impl.Dep{Left: 2, Right: 0}, 0, 1, 2},
		{impl.Dep{Left: 4, Right: 0}, 0, 3, 1},
		{impl.Dep{Left: 6, Right: 0}, 0, 3, 1},
		{impl.Dep{Left: 8, Right: 0}, 0, 1, 3},
		{impl.Dep{Left: 8, Right: 1}, 0, 2, 1},
		{impl.Dep{Left: 10, Right: 2}, 0, 1, 1},
		{impl.Dep{Left: 0, Right: 3}, -1, -1, 0},
		{impl.Dep{Left: 0, Right: 1}, 0, 2, 1},
		{impl.Dep{Left: 0, Right: 2}, 0, 1, 2},
		{impl.Dep{Left: 15, Right: 0}, -1, -1, 0},
	}
	for _, c := range cases {
		for _, mode := range modes {
			checkDep(t, table, mode, c.d, c.i, c.k, c.removed)
		}
	}
}

// outcome is what the functions say of one dependency in one mode.
type outcome struct{ i, k, removed int }

var holds = outcome{-1, -1, 0}

func TestDepsWithNulls(t *testing.T) {
	cases := []struct {
		table        impl.Table
		d            impl.Dep
		equal, apart outcome
	}{
		// in Left: in both rows, in the first, in the second
		{tableOf(2, []int{null, 1}, []int{null, 2}), impl.Dep{Left: 1, Right: 1}, outcome{0, 1, 1}, holds},
		{tableOf(2, []int{null, 1}, []int{0, 2}), impl.Dep{Left: 1, Right: 1}, holds, holds},
		{tableOf(2, []int{0, 1}, []int{null, 2}), impl.Dep{Left: 1, Right: 1}, holds, holds},
		{tableOf(2, []int{null, 1}, []int{null, 1}), impl.Dep{Left: 1, Right: 1}, holds, holds},
		// in Right
		{tableOf(2, []int{3, null}, []int{3, null}), impl.Dep{Left: 1, Right: 1}, holds, outcome{0, 1, 1}},
		{tableOf(2, []int{3, null}, []int{3, 0}), impl.Dep{Left: 1, Right: 1}, outcome{0, 1, 1}, outcome{0, 1, 1}},
		{tableOf(2, []int{3, 0}, []int{3, null}), impl.Dep{Left: 1, Right: 1}, outcome{0, 1, 1}, outcome{0, 1, 1}},
		{tableOf(2, []int{3, null}, []int{4, null}), impl.Dep{Left: 1, Right: 1}, holds, holds},
		// in Left and in Right
		{tableOf(2, []int{null, null}, []int{null, null}), impl.Dep{Left: 1, Right: 1}, holds, holds},
		{tableOf(2, []int{null, null}, []int{null, 0}), impl.Dep{Left: 1, Right: 1}, outcome{0, 1, 1}, holds},
		{tableOf(2, []int{null, null}, []int{3, null}), impl.Dep{Left: 1, Right: 1}, holds, holds},
		// in one column of Left alone
		{tableOf(3, []int{3, null, 1}, []int{3, null, 2}), impl.Dep{Left: 3, Right: 2}, outcome{0, 1, 1}, holds},
		{tableOf(3, []int{3, null, 1}, []int{3, null, 2}), impl.Dep{Left: 1, Right: 2}, outcome{0, 1, 1}, outcome{0, 1, 1}},
		{tableOf(3, []int{null, 3, 1}, []int{null, 3, 2}), impl.Dep{Left: 3, Right: 2}, outcome{0, 1, 1}, holds},
		// outside the dependency
		{tableOf(3, []int{3, null, 1}, []int{3, null, 1}), impl.Dep{Left: 1, Right: 2}, holds, holds},
		// a null is no value, not even the least one
		{tableOf(2, []int{null, 1}, []int{0, 2}, []int{40, 3}), impl.Dep{Left: 1, Right: 1}, holds, holds},
		// the same row twice, and again with another row between
		{tableOf(2, []int{1, null}, []int{1, null}), impl.Dep{Left: 1, Right: 1}, holds, outcome{0, 1, 1}},
		{tableOf(2, []int{1, null}, []int{2, 0}, []int{1, null}), impl.Dep{Left: 1, Right: 1}, holds, outcome{0, 2, 1}},
		// nulls beside values of Right in one class: 0 is there twice
		{tableOf(2, []int{1, null}, []int{1, 0}, []int{1, null}, []int{1, null}, []int{1, 0}), impl.Dep{Left: 1, Right: 1}, outcome{0, 1, 2}, outcome{0, 1, 3}},
		// nulls of Left do not fall together with values
		{tableOf(2, []int{null, 1}, []int{0, 1}, []int{null, 2}, []int{0, 2}), impl.Dep{Left: 1, Right: 1}, outcome{0, 2, 2}, outcome{1, 3, 1}},
	}
	for _, c := range cases {
		checkDep(t, c.table, impl.NullsEqual, c.d, c.equal.i, c.equal.k, c.equal.removed)
		checkDep(t, c.table, impl.NullsApart, c.d, c.apart.i, c.apart.k, c.apart.removed)
	}
}

// TestDepsOfManyTables compares every dependency with the rows cell by cell.
func TestDepsOfManyTables(t *testing.T) {
	for _, table := range append(someTables(), tinyTables()...) {
		for _, mode := range modes {
			for _, d := range depsOf(table.Columns) {
				i, k, _ := slowWitness(table, mode, d)
				checkDep(t, table, mode, d, i, k, removedOfClasses(table, mode, d))
			}
		}
	}
}

// TestDepsAndAgreeOf looks for agree sets with Left and without Right.
func TestDepsAndAgreeOf(t *testing.T) {
	for _, table := range someTables() {
		for _, mode := range modes {
			sets := impl.AgreeSets(table, mode)
			for _, d := range depsOf(table.Columns) {
				violates := func(set int) bool { return impl.IsPart(d.Left, set) && !impl.IsPart(1<<d.Right, set) }
				if got := impl.HoldsDep(table, mode, d); got == slices.ContainsFunc(sets, violates) {
					t.Fatalf("HoldsDep(%v, %d, %v) = %v, but the agree sets are %v", table, mode, d, got, sets)
				}
				i, k, found := impl.WitnessOf(table, mode, d)
				if !found {
					continue
				}
				if agreed := impl.AgreeOf(table, mode, i, k); i >= k || !violates(agreed) {
					t.Fatalf("WitnessOf(%v, %d, %v) = %d, %d, but these agree in %d", table, mode, d, i, k, agreed)
				}
			}
		}
	}
}

// TestDepsAndPartitions compares the partition of Left with those of Right and of both.
func TestDepsAndPartitions(t *testing.T) {
	for _, table := range someTables() {
		for _, mode := range modes {
			for _, d := range depsOf(table.Columns) {
				left, right := impl.PartitionOf(table, mode, d.Left), impl.PartitionOf(table, mode, 1<<d.Right)
				both := impl.PartitionOf(table, mode, d.Left|1<<d.Right)
				got := impl.HoldsDep(table, mode, d)
				if got != impl.IsFiner(left, right) || got != sameRows(left, both) {
					t.Fatalf("HoldsDep(%v, %d, %v) = %v, but the partitions are %v and %v", table, mode, d, got, left, right)
				}
				if got != (impl.ErrorOf(left) == impl.ErrorOf(both)) {
					t.Fatalf("HoldsDep(%v, %d, %v) = %v, but the errors say otherwise", table, mode, d, got)
				}
				removed := impl.RowsToRemove(table, mode, d)
				if most := impl.ErrorOf(left); removed > most || removed < most-impl.ErrorOf(both) {
					t.Fatalf("RowsToRemove(%v, %d, %v) = %d, but the partitions are %v and %v", table, mode, d, removed, left, both)
				}
			}
		}
	}
}

// TestDepsRightInLeft has dependencies that hold in every table.
func TestDepsRightInLeft(t *testing.T) {
	tables := append(someTables(), repeatedRow(40, null, null, null, null, null), repeatedRow(3, null, 0))
	for _, table := range append(tables, tinyTables()...) {
		for _, mode := range modes {
			for _, d := range depsOf(table.Columns) {
				if d.Left>>d.Right&1 == 1 {
					checkDep(t, table, mode, d, -1, -1, 0)
				}
			}
		}
	}
}

// TestDepsOfTheEmptySet has dependencies that hold if a column has one value.
func TestDepsOfTheEmptySet(t *testing.T) {
	cases := []struct {
		values       []int
		equal, apart outcome
	}{
		{nil, holds, holds},
		{[]int{3}, holds, holds},
		{[]int{null}, holds, holds},
		{[]int{3, 3}, holds, holds},
		{[]int{3, 3, 3, 3}, holds, holds},
		{[]int{3, 4}, outcome{0, 1, 1}, outcome{0, 1, 1}},
		{[]int{3, 3, 4}, outcome{0, 2, 1}, outcome{0, 2, 1}},
		{[]int{3, 4, 4}, outcome{0, 1, 1}, outcome{0, 1, 1}},
		{[]int{3, 3, 4, 4}, outcome{0, 2, 2}, outcome{0, 2, 2}},
		{[]int{3, 4, 5}, outcome{0, 1, 2}, outcome{0, 1, 2}},
		{[]int{null, null}, holds, outcome{0, 1, 1}},
		{[]int{null, null, null, null}, holds, outcome{0, 1, 3}},
		{[]int{null, 0}, outcome{0, 1, 1}, outcome{0, 1, 1}},
		{[]int{0, 0, null}, outcome{0, 2, 1}, outcome{0, 2, 1}},
		{[]int{null, null, null, 0}, outcome{0, 3, 1}, outcome{0, 1, 3}},
		{[]int{null, null, null, 0, 0}, outcome{0, 3, 2}, outcome{0, 1, 3}},
	}
	for _, c := range cases {
		for columns := 1; columns <= 5; columns++ {
			for right := range columns {
				table := manyRows(len(c.values), columns)
				for place, value := range c.values {
					table.Rows[place][right] = value
				}
				d := impl.Dep{Left: 0, Right: right}
				checkDep(t, table, impl.NullsEqual, d, c.equal.i, c.equal.k, c.equal.removed)
				checkDep(t, table, impl.NullsApart, d, c.apart.i, c.apart.k, c.apart.removed)
			}
		}
	}
}

// TestDepsOfFewRows has tables of no row and of one row, in which everything holds.
func TestDepsOfFewRows(t *testing.T) {
	row := []int{null, 0, null, 40, 7}
	for columns := 1; columns <= 5; columns++ {
		for _, mode := range modes {
			for _, d := range depsOf(columns) {
				checkDep(t, tableOf(columns), mode, d, -1, -1, 0)
				checkDep(t, tableOf(columns, row[:columns]), mode, d, -1, -1, 0)
			}
		}
	}
}

// TestWitnessOfTheFirst has several pairs of rows that violate A>B.
func TestWitnessOfTheFirst(t *testing.T) {
	cases := []struct {
		a, b []int
		i, k int
	}{
		{[]int{1, 1, 1}, []int{5, 6, 7}, 0, 1},
		{[]int{1, 1, 1}, []int{5, 5, 7}, 0, 2},
		{[]int{1, 1, 1}, []int{7, 5, 5}, 0, 1},
		// the least i has the greatest k, around and before the other pairs
		{[]int{1, 2, 2, 1}, []int{0, 1, 2, 3}, 0, 3},
		{[]int{1, 2, 1, 2}, []int{0, 1, 2, 3}, 0, 2},
		{[]int{1, 2, 3, 3, 2, 1}, []int{0, 1, 2, 3, 4, 5}, 0, 5},
		// the first class agrees
		{[]int{1, 2, 2, 1}, []int{4, 1, 2, 4}, 1, 2},
		{[]int{1, 2, 1, 2, 3, 3}, []int{4, 5, 4, 5, 6, 7}, 4, 5},
		{[]int{9, 8, 1, 1, 9, 8}, []int{0, 0, 1, 2, 0, 3}, 1, 5},
		{[]int{9, 8, 1, 1, 9, 8}, []int{0, 0, 2, 1, 0, 0}, 2, 3},
		// the greater value of Right comes first, and the greater class
		{[]int{5, 5, 1, 1}, []int{9, 3, 1, 2}, 0, 1},
		{[]int{1, 5, 5, 5, 5, 1}, []int{3, 1, 2, 3, 4, 2}, 0, 5},
	}
	for _, c := range cases {
		table := tableOf(2)
		for place := range c.a {
			table.Rows = append(table.Rows, []int{c.a[place], c.b[place]})
		}
		for _, mode := range modes {
			if i, k, found := impl.WitnessOf(table, mode, impl.Dep{Left: 1, Right: 1}); i != c.i || k != c.k || !found {
				t.Errorf("WitnessOf(%v, %d, A>B) = %d, %d, %v, want %d, %d", table, mode, i, k, found, c.i, c.k)
			}
		}
	}
}

// TestDepsOfEachPlace has one pair of rows that violates a dependency, at each two places.
func TestDepsOfEachPlace(t *testing.T) {
	for k := range impl.MaxRows {
		for i := range k {
			table := manyRows(impl.MaxRows, 3)
			table.Rows[k][1] = table.Rows[i][1]
			for _, mode := range modes {
				checkDep(t, table, mode, impl.Dep{Left: 2, Right: 0}, i, k, 1)
				checkDep(t, table, mode, impl.Dep{Left: 3, Right: 2}, -1, -1, 0)
				checkDep(t, table, mode, impl.Dep{Left: 6, Right: 0}, -1, -1, 0)
			}
		}
	}
}

func TestRowsToRemove(t *testing.T) {
	cases := []struct {
		a, b         []int
		equal, apart int
	}{
		{nil, nil, 0, 0},
		{[]int{1, 2, 3}, []int{1, 1, 1}, 0, 0},
		{[]int{1, 1, 1}, []int{1, 1, 1}, 0, 0},
		// several values are there equally often
		{[]int{1, 1}, []int{1, 2}, 1, 1},
		{[]int{1, 1, 1}, []int{1, 2, 3}, 2, 2},
		{[]int{1, 1, 1, 1}, []int{1, 2, 1, 2}, 2, 2},
		{[]int{1, 1, 1, 1, 1, 1}, []int{1, 1, 2, 2, 3, 3}, 4, 4},
		{[]int{1, 1, 1, 1, 1}, []int{3, 1, 1, 2, 2}, 3, 3},
		// the most frequent one is the first, the middle one, the last
		{[]int{1, 1, 1, 1}, []int{1, 1, 1, 2}, 1, 1},
		{[]int{1, 1, 1, 1}, []int{1, 2, 2, 3}, 2, 2},
		{[]int{1, 1, 1, 1}, []int{1, 2, 2, 2}, 1, 1},
		// several classes
		{[]int{1, 2, 1, 2}, []int{1, 1, 2, 2}, 2, 2},
		{[]int{1, 1, 2, 2, 2, 3}, []int{1, 2, 1, 1, 2, 9}, 2, 2},
		// the value of one class is not that of another one
		{[]int{1, 1, 1, 2, 2, 2}, []int{7, 7, 8, 8, 8, 7}, 2, 2},
		// nulls in Right
		{[]int{1, 1, 1}, []int{null, null, null}, 0, 2},
		{[]int{1, 1, 1, 1}, []int{null, null, null, 5}, 1, 3},
		{[]int{1, 1, 1, 1, 1}, []int{null, null, null, 5, 5}, 2, 3},
		{[]int{1, 1, 2, 2, 2}, []int{null, null, null, null, 0}, 1, 3},
		// nulls in Left
		{[]int{null, null, null}, []int{1, 2, 2}, 1, 0},
		{[]int{null, null, 1, 1}, []int{1, 2, 1, 2}, 2, 1},
		{[]int{null, null, 1, 1}, []int{null, null, null, null}, 0, 1},
	}
	for _, c := range cases {
		table := tableOf(2)
		for place := range c.a {
			table.Rows = append(table.Rows, []int{c.a[place], c.b[place]})
		}
		for mode, want := range []int{c.equal, c.apart} {
			if got := impl.RowsToRemove(table, mode, impl.Dep{Left: 1, Right: 1}); got != want {
				t.Errorf("RowsToRemove(%v, %d, A>B) = %d, want %d", table, mode, got, want)
			}
		}
	}
}

// TestRowsToRemoveOfEveryChoice tries all choices of rows in small tables.
func TestRowsToRemoveOfEveryChoice(t *testing.T) {
	r := rand.New(rand.NewSource(13))
	tables := tinyTables()
	for range 150 {
		tables = append(tables, smallTable(r, 7))
	}
	for _, table := range tables {
		for _, mode := range modes {
			for _, d := range depsOf(table.Columns) {
				if got, want := impl.RowsToRemove(table, mode, d), slowRemoved(table, mode, d); got != want {
					t.Fatalf("RowsToRemove(%v, %d, %v) = %d, want %d", table, mode, d, got, want)
				}
			}
		}
	}
}

// TestRowsToRemoveIsEnough removes rows and asks whether the dependency holds then.
func TestRowsToRemoveIsEnough(t *testing.T) {
	r := rand.New(rand.NewSource(14))
	for range 150 {
		table := smallTable(r, 6)
		for _, mode := range modes {
			for _, d := range depsOf(table.Columns) {
				removed, enough := impl.RowsToRemove(table, mode, d), false
				for choice := range 1 << len(table.Rows) {
					size := bits.OnesCount(uint(choice))
					if size > removed || !impl.HoldsDep(withoutRows(table, choice), mode, d) {
						continue
					}
					if size < removed {
						t.Fatalf("RowsToRemove(%v, %d, %v) = %d, but the choice %b is enough", table, mode, d, removed, choice)
					}
					enough = true
				}
				if !enough {
					t.Fatalf("RowsToRemove(%v, %d, %v) = %d is not enough", table, mode, d, removed)
				}
			}
		}
	}
}

// TestRowsToRemoveOfMaxRows has as many rows as there may be, in so many classes.
func TestRowsToRemoveOfMaxRows(t *testing.T) {
	for groups := 1; groups <= 40; groups++ {
		different, same, nulls, mostly := tableOf(2), tableOf(2), tableOf(2), tableOf(2)
		for row := range 40 {
			class := row % groups
			different.Rows = append(different.Rows, []int{class, row})
			same.Rows = append(same.Rows, []int{class, 40 - class})
			nulls.Rows = append(nulls.Rows, []int{class, null})
			mostly.Rows = append(mostly.Rows, []int{class, 0})
		}
		mostly.Rows[0][1] = 1
		// The row 0 has a class of its own only if all rows do.
		mostlyRemoved := 1
		if groups == 40 {
			mostlyRemoved = 0
		}
		d := impl.Dep{Left: 1, Right: 1}
		for _, mode := range modes {
			if got := impl.RowsToRemove(different, mode, d); got != 40-groups {
				t.Errorf("RowsToRemove(%v, %d, A>B) = %d, want %d", different, mode, got, 40-groups)
			}
			if got := impl.RowsToRemove(same, mode, d); got != 0 {
				t.Errorf("RowsToRemove(%v, %d, A>B) = %d, want 0", same, mode, got)
			}
			if got, want := impl.RowsToRemove(nulls, mode, d), mode*(40-groups); got != want {
				t.Errorf("RowsToRemove(%v, %d, A>B) = %d, want %d", nulls, mode, got, want)
			}
			if got := impl.RowsToRemove(mostly, mode, d); got != mostlyRemoved {
				t.Errorf("RowsToRemove(%v, %d, A>B) = %d, want %d", mostly, mode, got, mostlyRemoved)
			}
		}
	}
}

func TestDepsInvalid(t *testing.T) {
	tables := []impl.Table{agreeTable, repeatedRow(40, 1, 2), repeatedRow(40, null), manyRows(40, 4), tableOf(3, []int{1, 2, 3}, []int{1, 2, 4})}
	for columns := 1; columns <= 5; columns++ {
		tables = append(tables, tableOf(columns))
	}
	for _, table := range tables {
		for _, mode := range modes {
			for _, d := range badDepsOf(table.Columns) {
				checkInvalid(t, table, mode, d)
			}
		}
		for _, mode := range badModes {
			for _, d := range append(depsOf(table.Columns), badDepsOf(table.Columns)...) {
				checkInvalid(t, table, mode, d)
			}
		}
	}
	for _, bad := range invalidTables {
		for mode := -1; mode <= 2; mode++ {
			for _, d := range append(depsOf(5), badDepsOf(5)...) {
				checkInvalid(t, bad, mode, d)
			}
		}
	}
}

// TestDepsOfUnusedCapacity has rows behind the end of the list, within its capacity.
func TestDepsOfUnusedCapacity(t *testing.T) {
	rows := [][]int{{1, 1}, {1, 1}, {1, 2}}
	for _, mode := range modes {
		checkDep(t, impl.Table{Columns: 2, Rows: rows[:2]}, mode, impl.Dep{Left: 1, Right: 1}, -1, -1, 0)
		checkDep(t, impl.Table{Columns: 2, Rows: rows}, mode, impl.Dep{Left: 1, Right: 1}, 0, 2, 1)
	}
}

// textsOfDeps are the formats of the dependencies of so many columns, put together from written parts.
func textsOfDeps(columns int) map[string]impl.Dep {
	texts := map[string]impl.Dep{}
	if columns < 1 || columns > 5 {
		return texts
	}
	for _, d := range depsOf(columns) {
		texts[textOfSet[d.Left]+">"+"ABCDE"[d.Right:d.Right+1]] = d
	}
	return texts
}

func TestDepsInverse(t *testing.T) {
	written := map[string]impl.Dep{
		"none>A": {}, "A>A": {Left: 1}, "AB>C": {Left: 3, Right: 2}, "BC>A": {Left: 6},
		"E>D": {Left: 16, Right: 3}, "ABCDE>E": {Left: 31, Right: 4}, "none>E": {Right: 4}, "BDE>C": {Left: 26, Right: 2},
	}
	for s, d := range textsOfDeps(5) {
		written[s] = d
	}
	if len(written) != 160 {
		t.Errorf("%d dependencies, want 160", len(written))
	}
	for s, d := range written {
		if got := impl.FormatDep(d); got != s {
			t.Errorf("FormatDep(%v) = %q, want %q", d, got, s)
		}
		if got, ok := impl.ParseDep(5, s); got != d || !ok {
			t.Errorf("ParseDep(5, %q) = %v, %v, want %v", s, got, ok, d)
		}
	}
}

// TestParseDepColumnCounts reads the formats of all dependencies for each number of columns.
func TestParseDepColumnCounts(t *testing.T) {
	counts := append([]int{0, 1, 2, 3, 4, 5}, badColumnCounts...)
	for s, d := range textsOfDeps(5) {
		for _, n := range counts {
			want, known := textsOfDeps(n)[s]
			if got, ok := impl.ParseDep(n, s); got != want || ok != known {
				t.Errorf("ParseDep(%d, %q) = %v, %v, want %v, %v", n, s, got, ok, want, known)
			}
			if _, ok := impl.ParseDep(n, s); ok != impl.IsDep(n, d) {
				t.Errorf("ParseDep(%d, %q): %v, but IsDep says otherwise", n, s, ok)
			}
		}
	}
}

func TestFormatDepInvalid(t *testing.T) {
	bad := append(badDepsOf(5), impl.Dep{Left: -1, Right: -1}, impl.Dep{Left: 32, Right: 5}, impl.Dep{Left: 31, Right: 5}, impl.Dep{Left: 31, Right: -1})
	for _, left := range invalidSets {
		for right := -1; right <= 5; right++ {
			bad = append(bad, impl.Dep{Left: left, Right: right})
		}
	}
	for left := range 32 {
		bad = append(bad, impl.Dep{Left: left, Right: -1}, impl.Dep{Left: left, Right: 5}, impl.Dep{Left: left, Right: 6}, impl.Dep{Left: left, Right: 64})
	}
	for _, d := range bad {
		if got := impl.FormatDep(d); got != "" {
			t.Errorf("FormatDep(%v) = %q, want nothing", d, got)
		}
	}
}

func TestParseDepRejects(t *testing.T) {
	rejected := []string{
		// no >, or nothing beside it
		"", "A", "AB", "none", ">", ">>", "A>", ">A", "none>", ">none", "AB>", ">AB",
		// two of them, or another one
		"A>B>C", "A>>B", ">A>B", "A>B>", "none>A>B", "A>B>none", "A->B", "A=>B", "A<B", "A=B", "A-B", "A:B", "A\u203aB", "A\uff1eB", "A\u2192B",
		// letters in lower case, twice or out of order
		"a>B", "A>b", "a>b", "ab>C", "AA>B", "A>AA", "BA>C", "CAB>D", "ABB>C", "AAB>C", "EDCBA>A",
		// Right is no column, two or the word none
		"A>none", "none>none", "A>AB", "none>AB", "A>BC", "AB>ABCDE", "A>BA", "A>nothing", "A>null", "A>0", "A>1",
		// a column beyond the greatest one
		"A>F", "F>A", "AF>B", "ABCDEF>A", "A>G", "A>@", "A>[", "A>Z", "@>A", "A>\xff", "\xff>A", "A>\x00", "A>\u0391", "A>\uff21",
		// the word none with anything beside it
		"None>A", "NONE>A", "non>A", "nonee>A", "noneA>B", "Anone>B", "nonenone>A", "none,A>B",
		// spaces before, between and behind
		" A>B", "A >B", "A> B", "A>B ", "A > B", " none>A", "none >A", "A>B\n", "\nA>B", "A>B\t", "A\t>B", "A>B\r", "A B>C", "A,B>C", "A>B;", "A>B\x00", "\x00A>B", " ", " >A", "A> ", " > ",
		strings.Repeat("A>B", 1000), strings.Repeat(">", 100000), strings.Repeat("A", 100000) + ">B", "A>" + strings.Repeat("B", 100000),
	}
	for _, s := range rejected {
		for n := -1; n <= 6; n++ {
			if d, ok := impl.ParseDep(n, s); ok || d != (impl.Dep{}) {
				t.Errorf("ParseDep(%d, %q) = %v, %v, want the zero value and false", n, s, d, ok)
			}
		}
	}
}

// checkParseDep compares with the written formats for each number of columns.
func checkParseDep(t *testing.T, s string, texts []map[string]impl.Dep) {
	t.Helper()
	for at, known := range texts {
		want, ok := known[s]
		if d, read := impl.ParseDep(at-1, s); d != want || read != ok {
			t.Fatalf("ParseDep(%d, %q) = %v, %v, want %v, %v", at-1, s, d, read, want, ok)
		}
	}
}

// allTextsOfDeps are those of -1 columns and up to one too many.
func allTextsOfDeps() []map[string]impl.Dep {
	var texts []map[string]impl.Dep
	for n := -1; n <= 6; n++ {
		texts = append(texts, textsOfDeps(n))
	}
	return texts
}

// TestParseDepAll tries all strings of at most five pieces of the format and others.
func TestParseDepAll(t *testing.T) {
	texts := allTextsOfDeps()
	strs := []string{""}
	for depth := 0; depth <= 5; depth++ {
		var longer []string
		for _, s := range strs {
			checkParseDep(t, s, texts)
			for _, piece := range []string{"A", "B", "D", "F", "a", "none", ">", " "} {
				longer = append(longer, s+piece)
			}
		}
		strs = longer
	}
}

// TestParseDepEdits changes each byte of some formats in all ways, leaves it out and puts another one before it.
func TestParseDepEdits(t *testing.T) {
	texts := allTextsOfDeps()
	for _, s := range []string{"A>B", "none>A", "none>E", "AB>C", "E>E", "BCE>D", "ABCDE>A"} {
		for at := 0; at <= len(s); at++ {
			for b := range 256 {
				letter := string([]byte{byte(b)})
				checkParseDep(t, s[:at]+letter+s[at:], texts)
				if at < len(s) {
					checkParseDep(t, s[:at]+letter+s[at+1:], texts)
				}
			}
			checkParseDep(t, s[:at], texts)
			checkParseDep(t, s[at:], texts)
			if at < len(s) {
				checkParseDep(t, s[:at]+s[at+1:], texts)
			}
		}
	}
}

func TestSameDeps(t *testing.T) {
	ab, ba, none := impl.Dep{Left: 1, Right: 1}, impl.Dep{Left: 2, Right: 0}, impl.Dep{}
	bad := impl.Dep{Left: math.MinInt, Right: math.MaxInt}
	cases := []struct {
		a, b []impl.Dep
		want bool
	}{
		{nil, nil, true},
		{nil, []impl.Dep{}, true},
		{[]impl.Dep{}, []impl.Dep{}, true},
		{nil, []impl.Dep{none}, false},
		{[]impl.Dep{}, []impl.Dep{ab}, false},
		{[]impl.Dep{ab}, []impl.Dep{ab}, true},
		{[]impl.Dep{none}, []impl.Dep{none}, true},
		{[]impl.Dep{ab, ba, none}, []impl.Dep{ab, ba, none}, true},
		// another side, or both exchanged
		{[]impl.Dep{ab}, []impl.Dep{ba}, false},
		{[]impl.Dep{ab}, []impl.Dep{{Left: 1, Right: 0}}, false},
		{[]impl.Dep{ab}, []impl.Dep{{Left: 0, Right: 1}}, false},
		{[]impl.Dep{{Left: 1, Right: 2}}, []impl.Dep{{Left: 2, Right: 1}}, false},
		// another order, and another element at each place
		{[]impl.Dep{ab, ba}, []impl.Dep{ba, ab}, false},
		{[]impl.Dep{ab, ba, none}, []impl.Dep{ab, none, ba}, false},
		{[]impl.Dep{none, ba, none}, []impl.Dep{ab, ba, none}, false},
		{[]impl.Dep{ab, ab, none}, []impl.Dep{ab, ba, none}, false},
		{[]impl.Dep{ab, ba, ab}, []impl.Dep{ab, ba, none}, false},
		// another length: one is the beginning or the end of the other one
		{[]impl.Dep{ab}, []impl.Dep{ab, ba}, false},
		{[]impl.Dep{ba}, []impl.Dep{ab, ba}, false},
		{[]impl.Dep{ab}, []impl.Dep{ab, ab}, false},
		{[]impl.Dep{ab, ab}, []impl.Dep{ab, ab}, true},
		// dependencies that are not valid
		{[]impl.Dep{bad}, []impl.Dep{bad}, true},
		{[]impl.Dep{bad}, []impl.Dep{{Left: math.MinInt, Right: math.MaxInt - 1}}, false},
		{[]impl.Dep{{Left: -1, Right: -1}}, []impl.Dep{{Left: -1, Right: -1}}, true},
		{[]impl.Dep{{Left: -1, Right: -1}}, []impl.Dep{{Left: -1, Right: 5}}, false},
		{[]impl.Dep{{Left: 1 << 32}}, []impl.Dep{none}, false},
		{[]impl.Dep{{Right: 1 << 32}}, []impl.Dep{none}, false},
		{slices.Repeat([]impl.Dep{ab}, 1000), slices.Repeat([]impl.Dep{ab}, 1000), true},
		{slices.Repeat([]impl.Dep{ab}, 1000), slices.Repeat([]impl.Dep{ab}, 999), false},
	}
	for _, c := range cases {
		if impl.SameDeps(c.a, c.b) != c.want || impl.SameDeps(c.b, c.a) != c.want {
			t.Errorf("SameDeps(%v, %v) is not %v", c.a, c.b, c.want)
		}
		if !impl.SameDeps(c.a, slices.Clone(c.a)) {
			t.Errorf("%v is not the same as a copy of it", c.a)
		}
	}
}

// TestSameDepsOfEachDep holds each dependency against each other one.
func TestSameDepsOfEachDep(t *testing.T) {
	all := append(depsOf(5), badDepsOf(5)...)
	for _, a := range all {
		for _, b := range all {
			want := a.Left == b.Left && a.Right == b.Right
			if got := impl.SameDeps([]impl.Dep{a}, []impl.Dep{b}); got != want {
				t.Fatalf("SameDeps of %v and %v = %v, want %v", a, b, got, want)
			}
		}
	}
}

// TestDepsEveryTime makes the same calls many times, with many classes of which several parts are equally large.
func TestDepsEveryTime(t *testing.T) {
	table := tableOf(3)
	for row := range 40 {
		table.Rows = append(table.Rows, []int{row * 7 % 10, row / 20, []int{null, null, 3, 4}[row/10]})
	}
	ab, ac, cb := impl.Dep{Left: 1, Right: 1}, impl.Dep{Left: 1, Right: 2}, impl.Dep{Left: 4, Right: 1}
	for range 1000 {
		for _, mode := range modes {
			checkDep(t, table, mode, ab, 0, 20, 20)
			checkDep(t, table, mode, cb, -1, -1, 0)
		}
		checkDep(t, table, impl.NullsEqual, ac, 0, 20, 20)
		checkDep(t, table, impl.NullsApart, ac, 0, 10, 30)
		if d, ok := impl.ParseDep(3, "AB>C"); !ok || d != (impl.Dep{Left: 3, Right: 2}) || impl.FormatDep(d) != "AB>C" || !impl.IsDep(3, d) {
			t.Fatalf("ParseDep(3, AB>C) = %v, %v", d, ok)
		}
		if !impl.SameDeps([]impl.Dep{ab, ac}, []impl.Dep{ab, ac}) || impl.SameDeps([]impl.Dep{ab, ac}, []impl.Dep{ac, ab}) {
			t.Fatal("SameDeps")
		}
	}
}

// TestDepTablesStay compares tables, with their unused capacity, before and after the calls.
func TestDepTablesStay(t *testing.T) {
	for _, table := range append(someTables(), invalidTables...) {
		a := spareTable(table)
		before := wholeTable(a)
		for mode := -1; mode <= 2; mode++ {
			for left := -1; left <= 32; left++ {
				for right := -1; right <= 5; right++ {
					d := impl.Dep{Left: left, Right: right}
					impl.HoldsDep(a, mode, d)
					impl.WitnessOf(a, mode, d)
					impl.RowsToRemove(a, mode, d)
				}
			}
		}
		if after := wholeTable(a); after != before {
			t.Fatalf("%s became %s", before, after)
		}
	}
}

// TestSameDepsArgumentsStay does so for lists of dependencies, and looks only at those within their lengths.
func TestSameDepsArgumentsStay(t *testing.T) {
	all := append(depsOf(5), badDepsOf(5)...)
	for length := range all {
		a, b := slices.Clone(all), slices.Clone(all)
		for at := length; at < len(b); at++ {
			b[at] = impl.Dep{Left: spare, Right: spare}
		}
		whole := slices.Clone(b)
		if !impl.SameDeps(a[:length], b[:length]) || impl.SameDeps(a[:length+1], b[:length+1]) || impl.SameDeps(a[:length], b[:length+1]) {
			t.Fatalf("SameDeps of %d dependencies", length)
		}
		if !slices.Equal(a, all) || !slices.Equal(b, whole) {
			t.Fatalf("SameDeps of %d dependencies changed them", length)
		}
	}
}
