package tests

import (
	"math"
	"math/rand"
	"slices"
	"strings"
	"sync"
	"testing"

	"loop.example/g01988/impl"
)

// Promise 9, as a whole: schemas are in the stated normal form (tested with chapter 13), lossless, and preserving as stated. Parts are lossless if every table in which the dependencies hold is the join of its projections to them.

// mostParts and mostJoined are the limits that the chapter states.
const mostParts, mostJoined = 10, 10

func slowAreParts(n int, parts []int) bool {
	if n < 1 || n > 5 || len(parts) < 1 || len(parts) > mostParts {
		return false
	}
	for _, part := range parts {
		if part < 1 || part >= 1<<n {
			return false
		}
	}
	return columnsOf(parts) == 1<<n-1
}

func slowStart(n int, parts []int) [][]int {
	var rows [][]int
	for index, part := range parts {
		rows = append(rows, rowOfSet(n, part, 0, index+1))
	}
	return rows
}

// slowStep is for valid dependencies and rows.
func slowStep(n int, l []impl.Dep, rows [][]int) ([][]int, bool) {
	stepped := cloneRows(rows)
	for _, d := range l {
		i, k, violated := slowWitness(tableOf(n, rows...), impl.NullsEqual, d)
		if !violated {
			continue
		}
		a, b := rows[i][d.Right], rows[k][d.Right]
		for at, row := range rows {
			if row[d.Right] == a || row[d.Right] == b {
				stepped[at][d.Right] = min(a, b)
			}
		}
		return stepped, true
	}
	return stepped, false
}

func cloneRows(rows [][]int) [][]int {
	var all [][]int
	for _, row := range rows {
		all = append(all, slices.Clone(row))
	}
	return all
}

// slowEnd makes values equal in another order than the steps, the last dependency and the last rows first: the values that become equal in the end, and the least one of them, do not depend on the order.
func slowEnd(n int, l []impl.Dep, parts []int) [][]int {
	rows := slowStart(n, parts)
	for changed := true; changed; {
		changed = false
		for at := len(l) - 1; at >= 0; at-- {
			for i := len(rows) - 1; i >= 0; i-- {
				for k := i - 1; k >= 0; k-- {
					changed = slowEquated(rows, l[at], i, k) || changed
				}
			}
		}
	}
	return rows
}

// slowEquated makes the values of two rows equal that violate a dependency.
func slowEquated(rows [][]int, d impl.Dep, i, k int) bool {
	for column := range rows[i] {
		if hasColumn(d.Left, column) && rows[i][column] != rows[k][column] {
			return false
		}
	}
	a, b := rows[i][d.Right], rows[k][d.Right]
	for _, row := range rows {
		if row[d.Right] == a || row[d.Right] == b {
			row[d.Right] = min(a, b)
		}
	}
	return a != b
}

func hasZeroRow(rows [][]int) bool {
	return slices.ContainsFunc(rows, func(row []int) bool {
		return !slices.ContainsFunc(row, func(value int) bool { return value != 0 })
	})
}

// slowJoin tries all rows over the values that the columns have, one by one.
func slowJoin(table impl.Table, parts []int) impl.Table {
	values := make([][]int, table.Columns)
	for column := range values {
		for _, row := range table.Rows {
			values[column] = append(values[column], row[column])
		}
		slices.Sort(values[column])
		values[column] = slices.Compact(values[column])
	}
	join := tableOf(table.Columns)
	for _, row := range combined(values) {
		if !slices.ContainsFunc(parts, func(part int) bool { return !hasInPart(table, part, row) }) {
			join.Rows = append(join.Rows, row)
		}
	}
	return join
}

// rowsTried is the number of rows over the values that the columns have.
func rowsTried(table impl.Table) int {
	count := 1
	for column := range table.Columns {
		different := map[int]bool{}
		for _, row := range table.Rows {
			different[row[column]] = true
		}
		count *= len(different)
	}
	return count
}

// combined are all rows of one value of each list, in ascending order if the lists are.
func combined(values [][]int) [][]int {
	rows := [][]int{{}}
	for _, list := range values {
		var longer [][]int
		for _, row := range rows {
			for _, value := range list {
				longer = append(longer, append(slices.Clone(row), value))
			}
		}
		rows = longer
	}
	return rows
}

// hasInPart looks for a row of the table with the same values in a part.
func hasInPart(table impl.Table, part int, row []int) bool {
	return slices.ContainsFunc(table.Rows, func(other []int) bool {
		for column, value := range row {
			if hasColumn(part, column) && other[column] != value {
				return false
			}
		}
		return true
	})
}

// sortedRows has each different row of a table once.
func sortedRows(table impl.Table) impl.Table {
	return slowProjection(table, 1<<table.Columns-1)
}

func checkStart(t *testing.T, n int, parts []int) {
	t.Helper()
	var want [][]int
	if slowAreParts(n, parts) {
		want = slowStart(n, parts)
	}
	if got := impl.ChaseStart(n, parts); !sameRows(got, want) {
		t.Fatalf("ChaseStart(%d, %v) = %v, want %v", n, parts, got, want)
	}
}

func checkStep(t *testing.T, n int, l []impl.Dep, rows, want [][]int, stepped bool) {
	t.Helper()
	if got, ok := impl.ChaseStep(n, l, rows); ok != stepped || !sameRows(got, want) {
		t.Fatalf("ChaseStep(%d, %v, %v) = %v, %v, want %v, %v", n, l, rows, got, ok, want, stepped)
	}
}

// checkNoStep expects the rows unchanged and false.
func checkNoStep(t *testing.T, n int, l []impl.Dep, rows [][]int) {
	t.Helper()
	checkStep(t, n, l, rows, cloneRows(rows), false)
}

func checkLossless(t *testing.T, n int, l []impl.Dep, parts []int, want bool) {
	t.Helper()
	if got := impl.IsLossless(n, l, parts); got != want {
		t.Fatalf("IsLossless(%d, %v, %v) = %v, want %v", n, l, parts, got, want)
	}
}

func checkLoss(t *testing.T, n int, l []impl.Dep, parts []int, want impl.Table) {
	t.Helper()
	if got, ok := impl.LossTable(n, l, parts); !ok || !sameTable(got, want) {
		t.Fatalf("LossTable(%d, %v, %v) = %v, %v, want %v", n, l, parts, got, ok, want)
	}
}

func checkNoLoss(t *testing.T, n int, l []impl.Dep, parts []int) {
	t.Helper()
	if got, ok := impl.LossTable(n, l, parts); ok || !isZeroTable(got) {
		t.Fatalf("LossTable(%d, %v, %v) = %v, %v, want nothing and false", n, l, parts, got, ok)
	}
}

func checkJoin(t *testing.T, table impl.Table, parts []int, want impl.Table) {
	t.Helper()
	if got := impl.JoinParts(table, parts); !sameTable(got, want) {
		t.Fatalf("JoinParts(%v, %v) = %v, want %v", table, parts, got, want)
	}
}

func checkNoJoin(t *testing.T, table impl.Table, parts []int) {
	t.Helper()
	checkJoin(t, table, parts, impl.Table{})
}

// steppedEnd applies ChaseStep again and again, and compares each step.
func steppedEnd(t *testing.T, n int, l []impl.Dep, parts []int) [][]int {
	t.Helper()
	rows := impl.ChaseStart(n, parts)
	for {
		want, more := slowStep(n, l, rows)
		checkStep(t, n, l, rows, want, more)
		if !more {
			return rows
		}
		rows, _ = impl.ChaseStep(n, l, rows)
	}
}

// checkChase compares the answers for any list of parts and a valid list of dependencies with the steps and with each other.
func checkChase(t *testing.T, n int, l []impl.Dep, parts []int) {
	t.Helper()
	if !slowAreParts(n, parts) {
		checkNoChase(t, n, l, parts)
		return
	}
	rows := steppedEnd(t, n, l, parts)
	if want := slowEnd(n, l, parts); !sameRows(rows, want) {
		t.Fatalf("the chase of %v with %v ends in %v, want %v", parts, l, rows, want)
	}
	lossless := hasZeroRow(rows)
	checkLossless(t, n, l, parts, lossless)
	if lossless {
		checkNoLoss(t, n, l, parts)
		return
	}
	checkLossOf(t, n, l, parts, tableOf(n, rows...))
}

// checkLossOf expects a table as an example of a loss.
func checkLossOf(t *testing.T, n int, l []impl.Dep, parts []int, want impl.Table) {
	t.Helper()
	checkLoss(t, n, l, parts, want)
	table, _ := impl.LossTable(n, l, parts)
	if !impl.IsTable(table) {
		t.Fatalf("%v, of %v with %v, is no table", table, parts, l)
	}
	for _, d := range l {
		if !impl.HoldsDep(table, impl.NullsEqual, d) {
			t.Fatalf("%v does not hold in %v, of %v with %v", d, table, parts, l)
		}
	}
	// A larger join takes too long for every list.
	if rowsTried(table) > 2000 {
		return
	}
	join := impl.JoinParts(table, parts)
	isNew := func(row []int) bool { return !hasInPart(table, 1<<n-1, row) }
	if !slices.ContainsFunc(join.Rows, isNew) || !hasZeroRow(join.Rows) {
		t.Fatalf("the join %v of %v has nothing new, of %v with %v", join, table, parts, l)
	}
}

// checkNoChase expects the results for dependencies or parts that are not valid.
func checkNoChase(t *testing.T, n int, l []impl.Dep, parts []int) {
	t.Helper()
	checkLossless(t, n, l, parts, false)
	checkNoLoss(t, n, l, parts)
}

// validParts are all valid lists of at most so many parts of n columns.
func validParts(n, length int) [][]int {
	return slices.DeleteFunc(shortLists(n, length), func(parts []int) bool { return !slowAreParts(n, parts) })
}

// randomParts are up to ten valid parts of n columns.
func randomParts(r *rand.Rand, n int) []int {
	for {
		if parts := longList(r, n, 1+r.Intn(mostParts)); slowAreParts(n, parts) {
			return parts
		}
	}
}

// partsOfEveryKind are valid parts of five columns: one, ten, equal ones, some that are contained in each other, and some without a column in common.
var partsOfEveryKind = [][]int{
	{31}, {31, 31}, {31, 1}, {1, 31}, {1, 2, 4, 8, 16}, {16, 8, 4, 2, 1}, {3, 28}, {28, 3}, {3, 6, 12, 24}, {7, 25},
	{15, 16}, {15, 3, 16, 1, 19}, {1, 3, 7, 15, 31}, {1, 3, 7, 15, 16}, {30, 28, 24, 16, 1}, {3, 3, 28, 28}, {5, 10, 20, 5},
	{3, 5, 9, 17, 6, 10, 18, 12, 20, 24}, {28, 26, 22, 14, 25, 21, 13, 19, 11, 7}, {1, 2, 4, 8, 16, 1, 2, 4, 8, 16},
	{31, 31, 31, 31, 31, 31, 31, 31, 31, 31}, {15, 15, 15, 15, 15, 15, 15, 15, 15, 16}, {7, 14, 28, 25, 19},
}

// notParts are lists that are not valid for five columns, without those that have a part that is no set.
var notParts = [][]int{
	nil, {}, {0}, {0, 31}, {31, 0}, {1}, {15}, {30}, {3, 12}, {1, 2, 4, 8}, {15, 15}, {27, 11}, {0, 0},
	{31, 31, 31, 31, 31, 31, 31, 31, 31, 31, 31}, {1, 2, 4, 8, 16, 1, 2, 4, 8, 16, 31}, {1, 3, 7, 15, 16, 31, 0},
}

func TestChaseStart(t *testing.T) {
	cases := []struct {
		n     int
		parts []int
		want  [][]int
	}{
		{3, []int{3, 6}, [][]int{{0, 0, 1}, {2, 0, 0}}},
		{3, []int{6, 3}, [][]int{{1, 0, 0}, {0, 0, 2}}},
		// one part
		{1, []int{1}, [][]int{{0}}},
		{3, []int{7}, [][]int{{0, 0, 0}}},
		{5, []int{31}, [][]int{{0, 0, 0, 0, 0}}},
		// the same part twice
		{1, []int{1, 1}, [][]int{{0}, {0}}},
		{2, []int{1, 1, 2}, [][]int{{0, 1}, {0, 2}, {3, 0}}},
		{3, []int{3, 6, 3}, [][]int{{0, 0, 1}, {2, 0, 0}, {0, 0, 3}}},
		// contained in each other
		{3, []int{1, 3, 7}, [][]int{{0, 1, 1}, {0, 0, 2}, {0, 0, 0}}},
		{3, []int{7, 2}, [][]int{{0, 0, 0}, {2, 0, 2}}},
		{4, []int{12, 4, 3, 2}, [][]int{{1, 1, 0, 0}, {2, 2, 0, 2}, {0, 0, 3, 3}, {4, 0, 4, 4}}},
		// every column alone
		{5, []int{16, 8, 4, 2, 1}, [][]int{{1, 1, 1, 1, 0}, {2, 2, 2, 0, 2}, {3, 3, 0, 3, 3}, {4, 0, 4, 4, 4}, {0, 5, 5, 5, 5}}},
		// ten parts and eleven
		{2, []int{1, 2, 1, 2, 1, 2, 1, 2, 1, 2}, [][]int{{0, 1}, {2, 0}, {0, 3}, {4, 0}, {0, 5}, {6, 0}, {0, 7}, {8, 0}, {0, 9}, {10, 0}}},
		{2, []int{1, 2, 1, 2, 1, 2, 1, 2, 1, 2, 1}, nil},
		{1, []int{1, 1, 1, 1, 1, 1, 1, 1, 1, 1, 1}, nil},
		// no parts, and an empty one
		{3, nil, nil},
		{3, []int{}, nil},
		{3, []int{0}, nil},
		{3, []int{0, 7}, nil},
		{3, []int{7, 0}, nil},
		{3, []int{3, 0, 6}, nil},
		// a column that is in no part
		{3, []int{3}, nil},
		{3, []int{6, 4}, nil},
		{3, []int{5}, nil},
		{3, []int{1, 4, 5}, nil},
		{5, []int{15, 7, 12}, nil},
		// no sets of the first n columns
		{3, []int{-1}, nil},
		{3, []int{8}, nil},
		{3, []int{7, 8}, nil},
		{3, []int{15}, nil},
		{3, []int{-1, 7}, nil},
		{3, []int{3, 12}, nil},
		{5, []int{31, 32}, nil},
		{5, []int{63}, nil},
	}
	for _, c := range cases {
		if got := impl.ChaseStart(c.n, c.parts); !sameRows(got, c.want) {
			t.Errorf("ChaseStart(%d, %v) = %v, want %v", c.n, c.parts, got, c.want)
		}
		checkStart(t, c.n, c.parts)
	}
}

// TestChaseStartOfFewParts has all lists of few sets, and of others, for every number of columns.
func TestChaseStartOfFewParts(t *testing.T) {
	for n := -1; n <= impl.MaxColumns+1; n++ {
		for a := -2; a <= 65; a++ {
			checkStart(t, n, []int{a})
			for b := -2; b <= 65; b++ {
				checkStart(t, n, []int{a, b})
			}
		}
		for _, parts := range append(shortLists(3, 3), notParts...) {
			checkStart(t, n, parts)
		}
		for _, parts := range partsOfEveryKind {
			checkStart(t, n, parts)
		}
	}
	for _, n := range badColumnCounts {
		for _, parts := range [][]int{nil, {}, {0}, {1}, {31}, {63}, {-1}, {math.MaxInt}} {
			checkStart(t, n, parts)
		}
	}
}

// TestChaseStartOfManyParts has lists of every length about the limit, and much longer ones.
func TestChaseStartOfManyParts(t *testing.T) {
	r := rand.New(rand.NewSource(34))
	for length := range 2 * mostParts {
		for range 40 {
			n := 1 + r.Intn(5)
			checkStart(t, n, longList(r, n, length))
		}
		checkStart(t, 5, slices.Repeat([]int{31}, length))
	}
	for _, length := range []int{99, 100, 101, 1 << 16} {
		checkStart(t, 3, slices.Repeat([]int{7}, length))
	}
}

// TestChaseOfNoParts has parts that are empty or no sets of the first n columns at every place of a list, and columns that are in no part.
func TestChaseOfNoParts(t *testing.T) {
	for n := 1; n <= impl.MaxColumns; n++ {
		whole := []int{1<<n - 1, 1, 1<<n - 1}
		table := tableOf(n, make([]int, n))
		checkJoin(t, table, whole, table)
		for _, bad := range append(farSets(n), 0) {
			for place := range 4 {
				parts := slices.Insert(slices.Clone(whole), place, bad)
				checkStart(t, n, parts)
				checkNoChase(t, n, nil, parts)
				checkNoJoin(t, table, parts)
				checkNoJoin(t, tableOf(n), parts)
			}
			full := slices.Repeat([]int{1<<n - 1}, mostParts)
			full[placeIn(full, bad)] = bad
			checkStart(t, n, full)
			checkNoChase(t, n, nil, full)
			checkNoJoin(t, table, full)
		}
		for column := range n {
			rest := (1<<n - 1) &^ (1 << column)
			for _, parts := range [][]int{{rest}, {rest, rest}, {rest, 1 << ((column + 1) % n)}} {
				checkStart(t, n, parts)
				checkNoChase(t, n, nil, parts)
				checkNoJoin(t, table, parts)
			}
		}
	}
	for _, parts := range notParts {
		checkStart(t, 5, parts)
		checkNoChase(t, 5, nil, parts)
		checkNoChase(t, 5, depsIn("none>A none>B none>C none>D none>E"), parts)
		checkNoJoin(t, tableOf(5), parts)
		checkNoJoin(t, repeatedRow(3, 0, 1, 2, 3, 4), parts)
	}
}

// placeIn is a place of a list, another one for other numbers.
func placeIn(l []int, number int) int {
	return (number%len(l) + len(l)) % len(l)
}

func TestChaseStep(t *testing.T) {
	cases := []struct {
		n          int
		deps       string
		rows, want [][]int
	}{
		{3, "B>C", [][]int{{0, 0, 1}, {2, 0, 0}}, [][]int{{0, 0, 0}, {2, 0, 0}}},
		{3, "B>C", [][]int{{2, 0, 0}, {0, 0, 1}}, [][]int{{2, 0, 0}, {0, 0, 0}}},
		{3, "B>A", [][]int{{0, 0, 1}, {2, 0, 0}}, [][]int{{0, 0, 1}, {0, 0, 0}}},
		{1, "none>A", [][]int{{3}, {5}}, [][]int{{3}, {3}}},
		{1, "none>A", [][]int{{40}, {0}}, [][]int{{0}, {0}}},
		// the first dependency that does not hold, not the first one and not the first rows
		{3, "A>B B>C", [][]int{{0, 0, 1}, {2, 0, 0}}, [][]int{{0, 0, 0}, {2, 0, 0}}},
		{3, "B>C B>A", [][]int{{0, 0, 1}, {2, 0, 0}}, [][]int{{0, 0, 0}, {2, 0, 0}}},
		{3, "B>A B>C", [][]int{{0, 0, 1}, {2, 0, 0}}, [][]int{{0, 0, 1}, {0, 0, 0}}},
		{3, "C>A B>A A>B", [][]int{{0, 0, 1}, {1, 0, 2}, {1, 1, 3}}, [][]int{{0, 0, 1}, {0, 0, 2}, {0, 1, 3}}},
		{3, "A>B B>A", [][]int{{0, 0, 1}, {1, 0, 2}, {1, 1, 3}}, [][]int{{0, 0, 1}, {1, 0, 2}, {1, 0, 3}}},
		{2, "AB>A B>B B>A A>B", [][]int{{1, 2}, {3, 2}, {1, 4}}, [][]int{{1, 2}, {1, 2}, {1, 4}}},
		// the first rows: the least i, and for it the least k
		{2, "A>B", [][]int{{0, 1}, {1, 2}, {1, 3}, {0, 4}}, [][]int{{0, 1}, {1, 2}, {1, 3}, {0, 1}}},
		{2, "A>B", [][]int{{0, 4}, {0, 2}, {0, 3}}, [][]int{{0, 2}, {0, 2}, {0, 3}}},
		{2, "A>B", [][]int{{0, 2}, {0, 4}, {0, 3}}, [][]int{{0, 2}, {0, 2}, {0, 3}}},
		{2, "A>B", [][]int{{0, 4}, {0, 4}, {0, 3}, {0, 2}}, [][]int{{0, 3}, {0, 3}, {0, 3}, {0, 2}}},
		{2, "A>B", [][]int{{5, 9}, {0, 4}, {0, 6}, {5, 3}}, [][]int{{5, 3}, {0, 4}, {0, 6}, {5, 3}}},
		// rows that the witness does not name, before, between and behind its rows
		{2, "A>B", [][]int{{1, 7}, {0, 7}, {2, 7}, {0, 3}, {3, 7}, {4, 3}}, [][]int{{1, 3}, {0, 3}, {2, 3}, {0, 3}, {3, 3}, {4, 3}}},
		{2, "A>B", [][]int{{1, 7}, {0, 3}, {2, 7}, {0, 7}, {3, 7}, {4, 8}}, [][]int{{1, 3}, {0, 3}, {2, 3}, {0, 3}, {3, 3}, {4, 8}}},
		{2, "none>B", [][]int{{7, 7}, {3, 3}, {7, 7}, {3, 3}}, [][]int{{7, 3}, {3, 3}, {7, 3}, {3, 3}}},
		// equal values in other columns, also in Left
		{2, "A>B", [][]int{{7, 7}, {7, 3}, {3, 7}}, [][]int{{7, 3}, {7, 3}, {3, 3}}},
		{2, "B>A", [][]int{{7, 7}, {3, 7}, {7, 3}}, [][]int{{3, 7}, {3, 7}, {3, 3}}},
		{3, "A>B", [][]int{{5, 5, 5}, {5, 0, 5}, {5, 5, 5}}, [][]int{{5, 0, 5}, {5, 0, 5}, {5, 0, 5}}},
		{5, "CE>B", [][]int{{9, 9, 9, 9, 9}, {8, 8, 9, 8, 9}, {9, 9, 8, 9, 8}}, [][]int{{9, 8, 9, 9, 9}, {8, 8, 9, 8, 9}, {9, 8, 8, 9, 8}}},
		{4, "D>A", [][]int{{1, 1, 1, 1}, {0, 1, 1, 1}, {1, 0, 1, 0}, {1, 1, 0, 2}}, [][]int{{0, 1, 1, 1}, {0, 1, 1, 1}, {0, 0, 1, 0}, {0, 1, 0, 2}}},
		// one step alone
		{2, "A>B B>A", [][]int{{0, 0}, {0, 1}, {2, 1}, {2, 3}}, [][]int{{0, 0}, {0, 0}, {2, 0}, {2, 3}}},
		{3, "none>A none>B", [][]int{{0, 0, 0}, {1, 1, 1}, {2, 2, 2}}, [][]int{{0, 0, 0}, {0, 1, 1}, {2, 2, 2}}},
		// nothing to do
		{2, "", [][]int{{0, 1}, {0, 2}}, nil},
		{2, "A>A AB>B", [][]int{{0, 1}, {0, 2}}, nil},
		{2, "B>A", [][]int{{0, 1}, {0, 2}}, nil},
		{3, "A>B B>C A>C", [][]int{{0, 1, 2}, {0, 1, 2}, {1, 1, 2}}, nil},
		{2, "none>A A>B", [][]int{{0, 1}}, nil},
		{2, "none>A A>B", [][]int{}, nil},
		{2, "none>A A>B", nil, nil},
		{5, "none>E", [][]int{{40, 40, 40, 40, 40}}, nil},
	}
	for _, c := range cases {
		if l := depsIn(c.deps); c.want == nil {
			checkNoStep(t, c.n, l, c.rows)
		} else {
			checkStep(t, c.n, l, c.rows, c.want, true)
		}
	}
}

// TestChaseStepsOfManyRows compares the steps to the end for rows of every kind.
func TestChaseStepsOfManyRows(t *testing.T) {
	r := rand.New(rand.NewSource(35))
	steps := 0
	for range 1500 {
		n, count := 1+r.Intn(5), r.Intn(impl.MaxRows+1)
		if r.Intn(2) == 0 {
			count = r.Intn(6)
		}
		values := []int{0, 1, 2, 3, 7, 10, 11, impl.MaxCell - 1, impl.MaxCell}[r.Intn(6):][:3]
		rows := make([][]int, count)
		for i := range rows {
			for range n {
				rows[i] = append(rows[i], values[r.Intn(len(values))])
			}
		}
		l := longDeps(r, n, r.Intn(impl.MaxDeps+1))
		for more := true; more; steps++ {
			var want [][]int
			want, more = slowStep(n, l, rows)
			checkStep(t, n, l, rows, want, more)
			rows = want
		}
		for _, d := range l {
			if !impl.HoldsDep(tableOf(n, rows...), impl.NullsEqual, d) {
				t.Fatalf("%v does not hold at the end, in %v", d, rows)
			}
		}
	}
	if steps < 5000 {
		t.Fatalf("%d are too few steps", steps)
	}
}

// TestChaseStepOfFewRows has all tables of two columns and few rows, with all lists of at most two dependencies.
func TestChaseStepOfFewRows(t *testing.T) {
	lists := shortDeps(2, 2)
	for _, table := range tinyTables() {
		withNull := slices.ContainsFunc(table.Rows, func(row []int) bool { return slices.Contains(row, null) })
		for _, l := range lists {
			if withNull {
				checkNoStep(t, 2, l, table.Rows)
				continue
			}
			want, stepped := slowStep(2, l, table.Rows)
			checkStep(t, 2, l, table.Rows, want, stepped)
		}
	}
}

// TestChaseStepOfRowCounts has every number of rows about the limit.
func TestChaseStepOfRowCounts(t *testing.T) {
	for n := 1; n <= impl.MaxColumns; n++ {
		l := []impl.Dep{{Left: 0, Right: n - 1}}
		for count := range impl.MaxRows + 3 {
			rows := repeatedRow(count, slices.Repeat([]int{7}, n)...).Rows
			checkNoStep(t, n, l, rows)
			if count == 0 {
				continue
			}
			rows[count-1][n-1] = 40
			if count == 1 || count > impl.MaxRows {
				checkNoStep(t, n, l, rows)
				continue
			}
			checkStep(t, n, l, rows, repeatedRow(count, slices.Repeat([]int{7}, n)...).Rows, true)
			rows[0][n-1] = 41
			checkNoStep(t, n, l, rows)
		}
		checkNoStep(t, n, l, make([][]int, 1000))
	}
}

// TestChaseStepOfNoRows has a row that is too short or too long, and values that are out of range, at every place.
func TestChaseStepOfNoRows(t *testing.T) {
	badValues := []int{math.MinInt, -2, null, impl.MaxCell + 1, 1 << 32, math.MaxInt}
	for n := 1; n <= impl.MaxColumns; n++ {
		l := []impl.Dep{{Left: 0, Right: n - 1}}
		for place := range 4 {
			rows := repeatedRow(4, slices.Repeat([]int{1}, n)...).Rows
			rows[1][n-1], rows[2][n-1] = 3, 3
			want := repeatedRow(4, slices.Repeat([]int{1}, n)...).Rows
			checkStep(t, n, l, rows, want, true)
			whole := rows[place]
			for _, other := range [][]int{nil, {}, whole[:n-1], append(slices.Clone(whole), 1), append(slices.Clone(whole), whole...)} {
				rows[place] = other
				checkNoStep(t, n, l, rows)
			}
			for column := range n {
				rows[place] = slices.Clone(whole)
				for _, bad := range badValues {
					rows[place][column] = bad
					checkNoStep(t, n, l, rows)
					checkNoStep(t, n, nil, rows)
				}
				for _, good := range []int{0, 40} {
					rows[place][column] = good
					want, stepped := slowStep(n, l, rows)
					checkStep(t, n, l, rows, want, stepped)
				}
			}
		}
		for _, other := range []int{-1, 1} {
			if n+other >= 0 {
				checkNoStep(t, n, l, [][]int{make([]int, n+other), make([]int, n+other)})
			}
		}
	}
}

// TestChaseOfNoDeps has dependencies that are not valid at every place of a list, too many, and no number of columns.
func TestChaseOfNoDeps(t *testing.T) {
	checkBadDeps(t, func(t *testing.T, n int, l []impl.Dep) {
		t.Helper()
		if impl.AreDeps(n, l) {
			return
		}
		for _, rows := range [][][]int{nil, {}, {nil}, {{}, {}}, {{0}, {1}}, {{0, 1, 2}, {0, 2, 1}}, {{0, 1, 2, 3}, {1, 0, 3, 2}}, {{0, 0, 0, 0, 1}, {1, 0, 0, 0, 0}}} {
			checkNoStep(t, n, l, rows)
		}
		for _, parts := range [][]int{nil, {0}, {1}, {1, 1}, {3}, {3, 1}, {7}, {3, 6}, {15}, {31}, {3, 28}, {63}, {-1}} {
			checkNoChase(t, n, l, parts)
		}
	})
	checkStep(t, 4, depsIn("A>B AB>C D>A"), [][]int{{0, 0, 0, 0}, {0, 1, 0, 0}}, [][]int{{0, 0, 0, 0}, {0, 0, 0, 0}}, true)
	checkLossless(t, 4, depsIn("A>B AB>C D>A"), []int{7, 9}, true)
}

// TestChaseOfAsManyDeps has as many dependencies as there may be, and one more.
func TestChaseOfAsManyDeps(t *testing.T) {
	for _, d := range depsIn("A>B none>E ABCD>E ABC>C") {
		full := slices.Repeat([]impl.Dep{d}, impl.MaxDeps)
		for _, parts := range partsOfEveryKind {
			checkChase(t, 5, full, parts)
			checkLossless(t, 5, full, parts, hasZeroRow(slowEnd(5, []impl.Dep{d}, parts)))
			checkNoChase(t, 5, append(full, d), parts)
		}
		rows := [][]int{{0, 0, 0, 0, 0}, {0, 1, 0, 0, 1}}
		want, stepped := slowStep(5, []impl.Dep{d}, rows)
		checkStep(t, 5, full, rows, want, stepped)
		checkNoStep(t, 5, append(full, d), rows)
	}
	last := append(slices.Repeat(depsIn("A>A"), impl.MaxDeps-1), depsIn("B>C")...)
	checkStep(t, 3, last, [][]int{{0, 0, 1}, {2, 0, 0}}, [][]int{{0, 0, 0}, {2, 0, 0}}, true)
	checkLossless(t, 3, last, []int{3, 6}, true)
	checkNoLoss(t, 3, last, []int{3, 6})
	checkLossless(t, 3, append(last, last[0]), []int{3, 6}, false)
}

func TestIsLossless(t *testing.T) {
	cases := []struct {
		n     int
		deps  string
		parts []int
		want  bool
	}{
		{3, "B>C", []int{3, 6}, true},
		{3, "B>A", []int{3, 6}, true},
		{3, "A>B", []int{3, 6}, false},
		{3, "A>C", []int{3, 6}, false},
		{3, "", []int{3, 6}, false},
		{3, "", []int{3, 7}, true},
		{3, "", []int{7}, true},
		{3, "", []int{1, 2, 4}, false},
		{3, "B>C", []int{3}, false},
		{3, "none>C", []int{3, 4}, true},
		{3, "none>B", []int{3, 4}, false},
		{3, "none>A none>B", []int{1, 2, 4}, true},
		{3, "none>A", []int{1, 2, 4}, false},
		{2, "", []int{1, 2}, false},
		{2, "none>A", []int{1, 2}, true},
		{1, "", []int{1}, true},
		{1, "", []int{1, 1}, true},
		// through another column, and through another row
		{4, "A>B B>C", []int{3, 6, 9}, true},
		{4, "B>C", []int{3, 6, 9}, false},
		{4, "A>B", []int{3, 6, 9}, false},
		{4, "A>D B>C", []int{3, 6, 9}, true},
		{5, "A>B B>C C>D D>E", []int{3, 6, 12, 24}, true},
		{5, "B>C C>D D>E", []int{3, 6, 12, 24}, true},
		{5, "B>A C>B D>C", []int{3, 6, 12, 24}, true},
		{5, "A>B B>C C>D", []int{3, 6, 12, 24}, false},
		{5, "B>A C>D D>E", []int{3, 6, 12, 24}, true},
		{5, "B>A D>E", []int{3, 6, 12, 24}, false},
		{5, "A>C B>C C>D DE>C CE>A", []int{9, 3, 18, 28, 17}, true},
		{5, "A>C B>C C>D DE>C", []int{9, 3, 18, 28, 17}, false},
		// two values that are both greater than 0
		{4, "A>B B>C CD>A", []int{3, 6, 13}, true},
		{4, "C>D B>A", []int{6, 12, 3}, true},
		{4, "AD>B B>C", []int{9, 3, 6, 12}, false},
		// in other orders
		{3, "B>C", []int{6, 3}, true},
		{5, "D>E C>D B>C", []int{24, 12, 6, 3}, true},
		// parts in each other, and the same part twice
		{3, "", []int{1, 3, 7}, true},
		{3, "", []int{7, 3, 1}, true},
		{3, "B>C", []int{2, 3, 6, 4, 3}, true},
		{3, "C>B", []int{2, 3, 6, 4, 3}, false},
		{4, "", []int{7, 14, 6, 2, 14}, false},
		{4, "BC>A", []int{7, 14, 6, 2, 14}, true},
		{2, "", []int{1, 2, 1, 2}, false},
	}
	for _, c := range cases {
		checkLossless(t, c.n, depsIn(c.deps), c.parts, c.want)
		if slowAreParts(c.n, c.parts) {
			checkChase(t, c.n, depsIn(c.deps), c.parts)
		}
	}
}

// TestChaseOfFewParts has every list of at most three parts with every list of at most two dependencies.
func TestChaseOfFewParts(t *testing.T) {
	for n := 1; n <= 3; n++ {
		lists := validParts(n, 3)
		for _, l := range shortDeps(n, 2) {
			for _, parts := range lists {
				checkChase(t, n, l, parts)
			}
		}
		for _, parts := range shortLists(n, 3) {
			for _, l := range shortDeps(n, 1) {
				checkChase(t, n, l, parts)
			}
		}
	}
}

// TestChaseOfManyDeps has lists of every length over four and five columns.
func TestChaseOfManyDeps(t *testing.T) {
	r := rand.New(rand.NewSource(36))
	answers := [2]int{}
	check := func(t *testing.T, n int, l []impl.Dep) {
		t.Helper()
		for range 5 {
			parts := randomParts(r, n)
			checkChase(t, n, l, parts)
			if impl.IsLossless(n, l, parts) {
				answers[1]++
			} else {
				answers[0]++
			}
		}
	}
	checkManyDeps(t, 37, check)
	for range 1500 {
		check(t, impl.MaxColumns, longDeps(r, impl.MaxColumns, r.Intn(5)))
	}
	if min(answers[0], answers[1]) < 1000 {
		t.Fatalf("%v are too few answers of one kind", answers)
	}
	for _, l := range meaningLists() {
		for _, parts := range append(partsOfEveryKind, notParts...) {
			checkChase(t, 5, l, parts)
		}
	}
}

// TestLosslessOfTwoParts asks closures: two parts are lossless exactly if what they have in common determines one of them.
func TestLosslessOfTwoParts(t *testing.T) {
	for _, l := range meaningLists() {
		closures := slowClosures(5, l)
		for a := 1; a < 32; a++ {
			for b := 1; b < 32; b++ {
				closure := closures[a&b]
				checkLossless(t, 5, l, []int{a, b}, a|b == 31 && (closure&a == a || closure&b == b))
			}
		}
	}
}

// TestLosslessInAnyOrder has the parts and the dependencies in other orders, other dependencies of the same meaning, and further parts.
func TestLosslessInAnyOrder(t *testing.T) {
	r := rand.New(rand.NewSource(38))
	for _, l := range meaningLists() {
		for range 20 {
			parts := randomParts(r, 5)
			want := impl.IsLossless(5, l, parts)
			other, shuffled := slices.Clone(l), slices.Clone(parts)
			slices.Reverse(other)
			r.Shuffle(len(shuffled), func(i, k int) { shuffled[i], shuffled[k] = shuffled[k], shuffled[i] })
			checkLossless(t, 5, other, shuffled, want)
			checkLossless(t, 5, impl.CoverOf(5, l), shuffled, want)
			checkLossless(t, 5, l, impl.MaximalSets(parts), want)
			if len(parts) < mostParts {
				checkLossless(t, 5, l, append(shuffled, parts[0]), want)
				checkLossless(t, 5, l, append(shuffled, 31), true)
			}
		}
	}
}

// checkSchemas expects that both schemas are lossless, for a valid list.
func checkSchemas(t *testing.T, n int, l []impl.Dep) {
	t.Helper()
	for _, parts := range [][]int{impl.DecomposeBoyce(n, l), impl.SynthesizeThird(n, l)} {
		checkLossless(t, n, l, parts, true)
		checkChase(t, n, l, parts)
	}
}

func TestSchemasOfFewDeps(t *testing.T) {
	checkFewDeps(t, checkSchemas)
}

func TestSchemasOfManyDeps(t *testing.T) {
	checkManyDeps(t, 39, checkSchemas)
	r := rand.New(rand.NewSource(40))
	for range 1000 {
		checkSchemas(t, impl.MaxColumns, longDeps(r, impl.MaxColumns, 1+r.Intn(6)))
	}
}

// tableIn reads a table with commas between its rows, which have - for null and otherwise one digit for each value.
func tableIn(text string) impl.Table {
	var table impl.Table
	for _, word := range strings.Split(text, ",") {
		var row []int
		for _, letter := range word {
			row = append(row, strings.IndexRune("-0123456789", letter)-1)
		}
		table.Columns = len(row)
		table.Rows = append(table.Rows, row)
	}
	return table
}

func TestJoinParts(t *testing.T) {
	cases := []struct {
		table string
		parts []int
		want  string
	}{
		{"001,200", []int{3, 6}, "000,001,200,201"},
		{"200,001", []int{6, 3}, "000,001,200,201"},
		// the join of its parts, in any order and with rows that are there twice
		{"000,011,111", []int{3, 6}, "000,011,111"},
		{"111,000,011", []int{3, 6}, "000,011,111"},
		{"011,111,011,000,111", []int{6, 3}, "000,011,111"},
		{"321,310,421", []int{3, 6}, "310,321,421"},
		{"321,310,420", []int{3, 6}, "310,320,321,420,421"},
		{"110,120,210,220", []int{1, 6}, "110,120,210,220"},
		{"00,01,10,11", []int{1, 2}, "00,01,10,11"},
		{"5", []int{1}, "5"},
		{"5,3,5,4", []int{1, 1}, "3,4,5"},
		// ascending by the first column first
		{"901,019", []int{1, 2, 4}, "001,009,011,019,901,909,911,919"},
		{"09,18,27", []int{1, 2}, "07,08,09,17,18,19,27,28,29"},
		// one part that holds all columns, alone or not
		{"201,001,200,201", []int{7}, "001,200,201"},
		{"201,001,200", []int{7, 1, 4}, "001,200,201"},
		{"201,001,200", []int{2, 7}, "001,200,201"},
		{"21,10,21,10", []int{3, 3, 3}, "10,21"},
		// parts in each other, and the same part twice
		{"001,200", []int{3, 6, 1, 2, 6}, "000,001,200,201"},
		{"001,200", []int{2, 1, 3, 4, 6, 3}, "000,001,200,201"},
		{"01,10", []int{1, 2, 1, 2, 1, 2, 1, 2, 1, 2}, "00,01,10,11"},
		// parts without a column in common, and with columns between theirs
		{"01,10", []int{1, 2}, "00,01,10,11"},
		{"01,12", []int{2, 1}, "01,02,11,12"},
		{"012,345", []int{5, 2}, "012,042,315,345"},
		{"0123,4567", []int{5, 10}, "0123,0527,4163,4567"},
		{"0123,4567", []int{9, 6}, "0123,0563,4127,4567"},
		{"01234,56789", []int{17, 14}, "01234,06784,51239,56789"},
		// three parts, of which each two have more in common than all
		{"001,010,100", []int{3, 6, 5}, "000,001,010,100"},
		{"000,011,101,110", []int{3, 6, 5}, "000,001,010,011,100,101,110,111"},
		{"001,010,100,111", []int{3, 6, 5}, "000,001,010,011,100,101,110,111"},
		{"00,11", []int{3, 1}, "00,11"},
		// a row of parts that lead nowhere
		{"012,120,201", []int{3, 6}, "012,120,201"},
		{"0000,0111,1011", []int{3, 6, 12}, "0000,0011,0111,1000,1011"},
		// 0 is a value as any other
		{"000,111", []int{3, 6}, "000,111"},
		{"00,01", []int{1, 2}, "00,01"},
		{"0", []int{1}, "0"},
		// nulls are equal to each other, and less than 0
		{"--1,0-2", []int{3, 6}, "--1,--2,0-1,0-2"},
		{"0-1,102", []int{3, 6}, "0-1,102"},
		{"0-,-0", []int{1, 2}, "--,-0,0-,00"},
		{"-,0,-", []int{1}, "-,0"},
		{"---,-0-", []int{3, 6}, "---,-0-"},
		{"---,0-0", []int{3, 6}, "---,--0,0--,0-0"},
		{"1-,-1,--,-1", []int{3}, "--,-1,1-"},
	}
	for _, c := range cases {
		want := sortedRows(tableIn(c.want))
		checkJoin(t, tableIn(c.table), c.parts, want)
		checkJoin(t, tableIn(c.table), c.parts, slowJoin(tableIn(c.table), c.parts))
	}
	limits := tableOf(2, []int{40, 0}, []int{0, 40})
	checkJoin(t, limits, []int{1, 2}, tableOf(2, []int{0, 0}, []int{0, 40}, []int{40, 0}, []int{40, 40}))
	checkJoin(t, limits, []int{3}, tableOf(2, []int{0, 40}, []int{40, 0}))
}

// TestJoinPartsOfTinyTables has all tables of two columns and few rows with every list of at most three parts.
func TestJoinPartsOfTinyTables(t *testing.T) {
	for _, table := range tinyTables() {
		for _, parts := range shortLists(2, 3) {
			if slowAreParts(2, parts) {
				checkJoin(t, table, parts, slowJoin(table, parts))
			} else {
				checkNoJoin(t, table, parts)
			}
		}
	}
}

// fewRows is a table of n columns with at most ten rows, of so many different values.
func fewRows(r *rand.Rand, n, values int) impl.Table {
	table := tableOf(n)
	for range r.Intn(mostJoined + 1) {
		row := make([]int, n)
		for i := range row {
			row[i] = []int{0, null, 1, 40, 7, 2, 13, 4, 22, 31}[r.Intn(values)]
		}
		table.Rows = append(table.Rows, row)
	}
	return table
}

func TestJoinPartsOfManyTables(t *testing.T) {
	r := rand.New(rand.NewSource(41))
	joins, others, large := 0, 0, 0
	for range 6000 {
		n := 1 + r.Intn(5)
		table := fewRows(r, n, 1+r.Intn(10))
		if rowsTried(table) > 3000 {
			continue
		}
		parts := randomParts(r, n)
		want := slowJoin(table, parts)
		checkJoin(t, table, parts, want)
		if sameTable(want, sortedRows(table)) {
			joins++
		} else {
			others++
		}
		if len(want.Rows) > impl.MaxRows {
			large++
		}
		// the same rows in another order, and some of them again
		r.Shuffle(len(table.Rows), func(i, k int) { table.Rows[i], table.Rows[k] = table.Rows[k], table.Rows[i] })
		for len(table.Rows) < mostJoined && len(table.Rows) > 0 {
			table.Rows = append(table.Rows, slices.Clone(table.Rows[r.Intn(len(table.Rows))]))
		}
		checkJoin(t, table, parts, want)
	}
	if min(joins, others, large) < 300 {
		t.Fatalf("%d joins, %d others and %d large ones are too few of one kind", joins, others, large)
	}
}

// TestJoinPartsOfEveryKind has tables of five columns with parts of every kind.
func TestJoinPartsOfEveryKind(t *testing.T) {
	r := rand.New(rand.NewSource(42))
	for _, parts := range partsOfEveryKind {
		for range 20 {
			table := fewRows(r, 5, 1+r.Intn(4))
			checkJoin(t, table, parts, slowJoin(table, parts))
		}
		for n := 1; n < 5; n++ {
			checkNoJoin(t, fewRows(r, n, 2), parts)
		}
	}
}

// TestJoinPartsOfRowCounts has every number of rows about the limits, of rows that are all different or all the same.
func TestJoinPartsOfRowCounts(t *testing.T) {
	for count := range impl.MaxRows + 2 {
		equal, different := repeatedRow(count, 3, 4), tableOf(2)
		equal.Columns = 2
		for i := range count {
			different.Rows = append(different.Rows, []int{min(i, 40), 0})
		}
		for _, parts := range [][]int{{3}, {1, 2}, {3, 1}, {1, 2, 3, 1, 2, 3, 1, 2, 3, 1}} {
			if count > mostJoined {
				checkNoJoin(t, equal, parts)
				checkNoJoin(t, different, parts)
				continue
			}
			checkJoin(t, equal, parts, repeatedTimes(min(count, 1), 2, 3, 4))
			checkJoin(t, different, parts, different)
		}
	}
}

// repeatedTimes is as repeatedRow, with its columns also where there are no rows.
func repeatedTimes(times, columns int, row ...int) impl.Table {
	table := repeatedRow(times, row...)
	table.Columns = columns
	return table
}

func TestJoinPartsWithoutRows(t *testing.T) {
	for n := 1; n <= impl.MaxColumns; n++ {
		for _, table := range []impl.Table{tableOf(n), {Columns: n, Rows: [][]int{}}} {
			for _, parts := range validParts(n, 2) {
				checkJoin(t, table, parts, tableOf(n))
			}
			checkJoin(t, table, slices.Repeat([]int{1<<n - 1}, mostParts), tableOf(n))
			checkNoJoin(t, table, slices.Repeat([]int{1<<n - 1}, mostParts+1))
			checkNoJoin(t, table, nil)
			checkNoJoin(t, table, []int{0})
		}
	}
}

// TestJoinPartsOfManyRows has joins of more rows than a table may have, up to the largest one.
func TestJoinPartsOfManyRows(t *testing.T) {
	values := []int{null, 0, 1, 2, 3, 5, 8, 13, 21, 40}
	table := tableOf(5)
	for i := range values {
		table.Rows = append(table.Rows, []int{values[i], values[9-i], values[(i+3)%10], values[(7*i)%10], values[(3*i+5)%10]})
	}
	for _, singles := range [][]int{{1, 2, 4, 8, 16}, {16, 8, 4, 2, 1}, {4, 1, 16, 2, 8, 8, 4, 16, 1, 2}} {
		checkJoin(t, table, singles, tableOf(5, combined(slices.Repeat([][]int{values}, 5))...))
	}
	for n := 2; n <= 4; n++ {
		narrow := tableOf(n)
		for _, row := range table.Rows {
			narrow.Rows = append(narrow.Rows, row[:n])
		}
		checkJoin(t, narrow, []int{1, 2, 4, 8}[:n], tableOf(n, combined(slices.Repeat([][]int{values}, n))...))
	}
	// 41 rows and 40
	six := tableIn("00,01,02,03,04,05")
	six.Rows = append(six.Rows, []int{1, 0}, []int{2, 0}, []int{3, 0}, []int{4, 0})
	checkJoin(t, six, []int{1, 2}, slowJoin(six, []int{1, 2}))
	if got := impl.JoinParts(six, []int{2, 1}); len(got.Rows) != 30 || !impl.IsTable(got) {
		t.Fatalf("%v has not 30 rows", got)
	}
	more := tableIn("00,11,22,33,44,55,66,63,64,65")
	if got := impl.JoinParts(more, []int{2, 1}); len(got.Rows) != 49 || impl.IsTable(got) {
		t.Fatalf("%v has not 49 rows", got)
	}
}

// TestJoinPartsOfNoTable has tables that are not valid.
func TestJoinPartsOfNoTable(t *testing.T) {
	for _, table := range invalidTables {
		for n := 1; n <= impl.MaxColumns; n++ {
			for _, parts := range [][]int{{1<<n - 1}, {1, 1<<n - 1}, nil, {0}, {1}, slices.Repeat([]int{1<<n - 1}, mostParts)} {
				checkNoJoin(t, table, parts)
			}
		}
		checkNoJoin(t, table, []int{63})
		checkNoJoin(t, table, []int{-1})
	}
	for n := 1; n <= impl.MaxColumns; n++ {
		for _, row := range [][]int{nil, make([]int, n-1), make([]int, n+1), append(make([]int, n-1), 41), append(make([]int, n-1), -2)} {
			for place := range 3 {
				rows := slices.Insert([][]int{make([]int, n), make([]int, n)}, place, row)
				checkNoJoin(t, tableOf(n, rows...), []int{1<<n - 1})
			}
		}
	}
}

// textInLoss writes a table as tableIn reads it.
func textInLoss(table impl.Table) string {
	var rows []string
	for _, row := range table.Rows {
		word := ""
		for _, value := range row {
			word += string("-0123456789"[value+1])
		}
		rows = append(rows, word)
	}
	return strings.Join(rows, ",")
}

func TestLossTable(t *testing.T) {
	cases := []struct {
		n     int
		deps  string
		parts []int
		want  string
	}{
		{3, "", []int{3, 6}, "001,200"},
		{3, "", []int{6, 3}, "100,002"},
		{3, "A>B", []int{3, 6}, "001,200"},
		{3, "A>C C>A", []int{3, 6}, "001,200"},
		{2, "", []int{1, 2}, "01,20"},
		{2, "A>B", []int{1, 2}, "01,20"},
		{3, "", []int{1, 2, 4}, "011,202,330"},
		// parts in each other
		{3, "", []int{3, 6, 2}, "001,200,303"},
		{3, "", []int{1, 3, 6}, "011,002,300"},
		{3, "A>B", []int{1, 3, 6}, "001,002,300"},
		{3, "C>B", []int{2, 3, 6, 4, 3}, "101,002,300,400,005"},
		{4, "", []int{7, 14, 6, 2, 14}, "0001,2000,3003,4044,5000"},
		// the chase makes values equal, also such that are greater than 0, and rows
		{3, "none>A", []int{1, 2, 4}, "011,002,030"},
		{3, "none>A none>B", []int{1, 2, 4}, ""},
		{3, "C>A", []int{1, 2, 4}, "011,202,330"},
		{3, "A>C", []int{1, 1, 6}, "011,021,300"},
		{3, "A>C A>B", []int{1, 1, 6}, "011,011,300"},
		{4, "A>B B>C", []int{3, 3, 12}, "0011,0012,3300"},
		{4, "A>B B>C C>D", []int{3, 3, 12}, "0011,0011,3300"},
		{5, "A>C B>C C>D DE>C", []int{9, 3, 18, 28, 17}, "01001,00002,30000,44000,05000"},
		// lossless
		{3, "B>C", []int{3, 6}, ""},
		{3, "", []int{7}, ""},
		{3, "", []int{1, 7}, ""},
		{1, "", []int{1}, ""},
		{5, "A>C B>C C>D DE>C CE>A", []int{9, 3, 18, 28, 17}, ""},
	}
	for _, c := range cases {
		got, ok := impl.LossTable(c.n, depsIn(c.deps), c.parts)
		if text := textInLoss(got); ok != (c.want != "") || text != c.want {
			t.Errorf("LossTable(%d, %s, %v) = %s, %v, want %s", c.n, c.deps, c.parts, text, ok, c.want)
		}
		checkChase(t, c.n, depsIn(c.deps), c.parts)
	}
}

// TestJoinOfLosslessParts expects that a table in which all dependencies hold is the join of its projections, and for other parts that not every such table is.
func TestJoinOfLosslessParts(t *testing.T) {
	r := rand.New(rand.NewSource(43))
	for _, l := range append(meaningLists(), shortDeps(3, 1)...) {
		lossless := [][]int{}
		for range 10 {
			if parts := randomParts(r, 5); impl.IsLossless(5, l, parts) {
				lossless = append(lossless, parts)
			}
		}
		lossless = append(lossless, impl.DecomposeBoyce(5, l), impl.SynthesizeThird(5, l))
		for range 10 {
			table := heldBy(5, l, fewRows(r, 5, 2+r.Intn(9)))
			for _, parts := range lossless {
				checkLossless(t, 5, l, parts, true)
				checkJoin(t, table, parts, sortedRows(table))
			}
		}
		if table, _ := impl.ArmstrongTable(5, l); len(table.Rows) <= mostJoined {
			for _, parts := range lossless {
				checkJoin(t, table, parts, sortedRows(table))
			}
		}
	}
}

// heldBy makes values of a table equal until all dependencies hold.
func heldBy(n int, l []impl.Dep, table impl.Table) impl.Table {
	for {
		rows, changed := slowStep(n, l, table.Rows)
		table.Rows = rows
		if !changed {
			return table
		}
	}
}

// TestJoinOfTablesWithDeps has the dependencies that hold in a table, and every list of at most two parts.
func TestJoinOfTablesWithDeps(t *testing.T) {
	r := rand.New(rand.NewSource(44))
	tables := append(tinyTables(), people, crossed, apartPairs)
	for range 300 {
		tables = append(tables, fewRows(r, 3, 1+r.Intn(4)), fewRows(r, 4, 1+r.Intn(4)))
	}
	for _, table := range tables {
		l := impl.MinimalDeps(table, impl.NullsEqual)
		l = l[:min(len(l), impl.MaxDeps)]
		for _, parts := range validParts(table.Columns, 2) {
			if impl.IsLossless(table.Columns, l, parts) {
				checkJoin(t, table, parts, sortedRows(table))
			}
		}
		n := table.Columns
		checkJoin(t, table, impl.DecomposeBoyce(n, l), sortedRows(table))
		checkJoin(t, table, impl.SynthesizeThird(n, l), sortedRows(table))
	}
}

// chaseRows are rows of every kind, with numbers of columns for which they are valid or not.
var chaseRows = []struct {
	n    int
	rows [][]int
}{
	{3, [][]int{{0, 0, 1}, {2, 0, 0}}},
	{3, [][]int{{5, 5, 5}, {5, 5, 0}, {5, 1, 5}, {5, 5, 40}}},
	{3, [][]int{{0, 0, 0}, {0, 0, 0}, {1, 1, 1}}},
	{3, [][]int{{0, 0, 0}, {0, 0}, {1, 1, 1, 1}, nil, {}}},
	{3, [][]int{{0, 0, null}, {0, 0, 41}}},
	{5, [][]int{{0, 1, 2, 3, 4}, {0, 2, 4, 6, 8}, {1, 2, 3, 4, 5}, {0, 1, 0, 1, 0}}},
	{2, [][]int{{1, 2}}},
	{1, [][]int{{1}, {0}, {1}}},
	{4, nil},
	{4, [][]int{}},
	{1, make([][]int, 3)},
	{0, [][]int{{}, {}}},
	{-1, [][]int{{0}, {1}}},
	{6, [][]int{{0, 0, 0, 0, 0, 0}, {0, 0, 0, 0, 0, 1}}},
	{5, slices.Repeat([][]int{{0, 0, 0, 0, 1}, {0, 0, 0, 0, 2}}, impl.MaxRows)},
}

// TestChaseArgumentsStay compares lists, rows and tables, with their unused capacity, before and after the calls, and after their results were overwritten.
func TestChaseArgumentsStay(t *testing.T) {
	lists := append(meaningLists(), badLists(5)...)
	for _, l := range append(lists, depsIn("none>A A>B B>C"), depsIn("B>C B>A")) {
		a := spareDeps(l)
		before := slices.Clone(a[:cap(a)])
		for _, parts := range append(partsOfEveryKind[:14:14], nil, []int{3, 6}, []int{31, 32}, []int{0, 31}, []int{1, 1}) {
			b := spareRow(parts)
			whole := slices.Clone(b[:cap(b)])
			for n := -1; n <= 6; n++ {
				spoilRows(impl.ChaseStart(n, b))
				impl.IsLossless(n, a, b)
				table, _ := impl.LossTable(n, a, b)
				spoilRows(table.Rows)
			}
			if !slices.Equal(b[:cap(b)], whole) {
				t.Fatalf("%v became %v", whole, b[:cap(b)])
			}
		}
		for _, c := range chaseRows {
			table := spareTable(tableOf(c.n, c.rows...))
			whole := wholeTable(table)
			rows, _ := impl.ChaseStep(c.n, a, table.Rows)
			spoilRows(rows)
			if after := wholeTable(table); after != whole {
				t.Fatalf("%s became %s", whole, after)
			}
		}
		if !slices.Equal(a[:cap(a)], before) {
			t.Fatalf("%v became %v", before, a[:cap(a)])
		}
	}
}

// TestJoinArgumentsStay does the same for tables and parts that are joined.
func TestJoinArgumentsStay(t *testing.T) {
	r := rand.New(rand.NewSource(45))
	tables := append(coverTables(), invalidTables...)
	for range 20 {
		tables = append(tables, fewRows(r, 5, 3), fewRows(r, 3, 3))
	}
	for _, table := range tables {
		a := spareTable(table)
		before := wholeTable(a)
		for _, parts := range append(partsOfEveryKind, []int{3}, []int{1, 2}, []int{6, 3}, []int{7, 8}, []int{15, 1}, nil, []int{0}, []int{-1}) {
			b := spareRow(parts)
			whole := slices.Clone(b[:cap(b)])
			spoilRows(impl.JoinParts(a, b).Rows)
			if !slices.Equal(b[:cap(b)], whole) {
				t.Fatalf("%v became %v", whole, b[:cap(b)])
			}
		}
		if after := wholeTable(a); after != before {
			t.Fatalf("%s became %s", before, after)
		}
	}
}

// TestChaseOfUnusedCapacity has parts, dependencies, rows and values behind the end of the list, within its capacity.
func TestChaseOfUnusedCapacity(t *testing.T) {
	l, parts := depsIn("A>B B>C"), []int{3, 6, 0}
	checkStart(t, 3, parts[:2])
	checkStart(t, 3, parts[:1])
	checkLossless(t, 3, l[:1], parts[:2], false)
	checkLossless(t, 3, l, parts[:2], true)
	checkLoss(t, 3, l[:1], parts[:2], tableIn("001,200"))
	wide := [][]int{{0, 0, 0}, {0, 1, 0}, {0, 0, 1}}
	checkNoStep(t, 3, l, wide[:1])
	checkNoStep(t, 3, l[:0], wide)
	checkNoStep(t, 2, l[:1], [][]int{wide[0][:2], wide[2][:2]})
	checkStep(t, 2, l[:1], [][]int{wide[0][:2], wide[1][:2]}, [][]int{{0, 0}, {0, 0}}, true)
	table := tableIn("001,200,333")
	checkJoin(t, impl.Table{Columns: 3, Rows: table.Rows[:2]}, parts[:2], tableIn("000,001,200,201"))
	checkJoin(t, impl.Table{Columns: 3, Rows: table.Rows[:0]}, parts[:2], tableOf(3))
	checkJoin(t, tableOf(2, table.Rows[0][:2], table.Rows[1][:2]), parts[:1], tableIn("00,20"))
}

// TestChaseResultsAreNewMemory changes one result before the next one, and an argument after the call.
func TestChaseResultsAreNewMemory(t *testing.T) {
	for _, parts := range append(partsOfEveryKind, notParts...) {
		checkNewTable(t, func() impl.Table { return tableOf(5, impl.ChaseStart(5, parts)...) })
		a := spareRow(parts)
		rows := impl.ChaseStart(5, a)
		spoilRow(a)
		if slowAreParts(5, parts) && !sameRows(rows, slowStart(5, parts)) {
			t.Fatalf("%v after a change of the argument", rows)
		}
		for _, text := range []string{"", "A>B B>C", "A>B none>C E>A"} {
			checkNewTable(t, func() impl.Table {
				table, _ := impl.LossTable(5, depsIn(text), parts)
				return table
			})
		}
	}
	for _, c := range chaseRows {
		for _, text := range []string{"", "B>C", "none>A A>B", "A>A", "none>A none>A none>A none>A none>A none>A none>A none>A none>A none>A none>A none>A none>A none>A none>A none>A none>A none>A none>A none>A none>A"} {
			l := depsIn(text)
			checkNewTable(t, func() impl.Table {
				rows, _ := impl.ChaseStep(c.n, l, c.rows)
				return impl.Table{Columns: c.n, Rows: rows}
			})
			a := spareTable(tableOf(c.n, c.rows...))
			rows, stepped := impl.ChaseStep(c.n, l, a.Rows)
			want := cloneRows(rows)
			spoilRows(a.Rows)
			if !sameRows(rows, want) || !stepped && !sameRows(rows, c.rows) {
				t.Fatalf("%v after a change of the argument, want %v", rows, want)
			}
		}
	}
}

// TestJoinResultsAreNewMemory does the same for joins.
func TestJoinResultsAreNewMemory(t *testing.T) {
	r := rand.New(rand.NewSource(46))
	for range 20 {
		table := fewRows(r, 5, 2)
		for _, parts := range partsOfEveryKind {
			checkNewTable(t, func() impl.Table { return impl.JoinParts(table, parts) })
			a, b := spareTable(table), spareRow(parts)
			join := impl.JoinParts(a, b)
			spoilRows(a.Rows)
			spoilRow(b)
			if !sameTable(join, slowJoin(table, parts)) {
				t.Fatalf("%v after a change of the arguments", join)
			}
		}
	}
}

// TestChaseOfSharedRows has one row at several places of the arguments, and rows side by side in one memory.
func TestChaseOfSharedRows(t *testing.T) {
	row, flat := []int{1, 2, 3}, []int{0, 0, 1, 2, 0, 0, 0, 0, 4}
	l := depsIn("B>C")
	for _, rows := range [][][]int{{row, row, row}, {row, {1, 2, 0}, row}, {flat[0:3], flat[3:6], flat[6:9]}, {flat[0:3], flat[2:5], flat[1:4]}} {
		before := cloneRows(rows)
		want, stepped := slowStep(3, l, before)
		checkStep(t, 3, l, rows, want, stepped)
		got, _ := impl.ChaseStep(3, l, rows)
		checkOwnRows(t, got)
		join := impl.JoinParts(tableOf(3, rows...), []int{3, 6})
		checkJoin(t, tableOf(3, before...), []int{3, 6}, join)
		checkOwnRows(t, join.Rows)
		if !sameRows(rows, before) {
			t.Fatalf("%v became %v", before, rows)
		}
	}
}

// checkOneChase makes each call of the chapter once.
func checkOneChase(t *testing.T) {
	l, parts := depsIn("A>C B>C C>D DE>C"), []int{9, 3, 18, 28, 17}
	checkStart(t, 5, parts)
	checkStep(t, 3, l[1:2], [][]int{{0, 0, 1}, {2, 0, 0}}, [][]int{{0, 0, 0}, {2, 0, 0}}, true)
	checkNoStep(t, 3, l[:1], [][]int{{0, 0, 1}, {2, 0, 0}})
	checkLossless(t, 5, l, parts, false)
	checkLossless(t, 5, append(l, depsIn("CE>A")...), parts, true)
	checkLoss(t, 5, l, parts, tableIn("01001,00002,30000,44000,05000"))
	checkNoLoss(t, 5, append(l, depsIn("CE>A")...), parts)
	checkJoin(t, tableIn("001,200"), []int{3, 6}, tableIn("000,001,200,201"))
	checkJoin(t, tableIn("09,18,27"), []int{1, 2}, tableIn("07,08,09,17,18,19,27,28,29"))
	checkJoin(t, tableIn("000,011,101,110"), []int{3, 6, 5}, tableIn("000,001,010,011,100,101,110,111"))
}

// TestChaseEveryTime makes the same calls many times.
func TestChaseEveryTime(t *testing.T) {
	for range 500 {
		checkOneChase(t)
	}
}

// TestChaseAtOnce makes the same calls many times from several goroutines, with arguments that all of them read.
func TestChaseAtOnce(t *testing.T) {
	l, table := depsIn("A>B B>C C>D"), tableIn("0123-,45-67,89012,34567,89-23")
	rows := [][]int{{0, 0, 1}, {2, 0, 0}, {2, 0, 1}, {1, 1, 1}}
	parts := []int{3, 6, 12, 24, 5, 1, 16}
	start, loss := slowStart(5, parts), tableOf(5, slowEnd(5, l, parts)...)
	step, stepped := slowStep(3, l[1:2], rows)
	join, other := slowJoin(table, parts), slowJoin(table, []int{3, 4, 24})
	var callers sync.WaitGroup
	for range 8 {
		callers.Go(func() {
			for range 100 {
				started := impl.ChaseStart(5, parts)
				moved, ok := impl.ChaseStep(3, l[1:2], rows)
				lost, lossy := impl.LossTable(5, l, parts)
				if !sameRows(started, start) || ok != stepped || !sameRows(moved, step) || !lossy || !sameTable(lost, loss) {
					t.Errorf("%v, %v, %v and %v, %v at once", started, moved, ok, lost, lossy)
				}
				if impl.IsLossless(5, l, parts) || !sameTable(impl.JoinParts(table, parts), join) || !sameTable(impl.JoinParts(table, []int{3, 4, 24}), other) {
					t.Error("other answers at once")
				}
			}
		})
	}
	callers.Wait()
}
