package tests

import (
	"math"
	"math/rand"
	"slices"
	"testing"

	"loop.example/g01988/impl"
)

// Promise 3, for agree sets: they are those of the pairs of rows, and difference sets are what is left of them, in both meanings of nulls.

var modes = []int{impl.NullsEqual, impl.NullsApart}

var badModes = []int{math.MinInt, -2, -1, 2, 3, 1 << 32, 1<<32 + 1, math.MaxInt}

// slowEqual is the meaning of nulls, written without the constants of the modes.
func slowEqual(mode, a, b int) bool {
	return a == b && !(mode == 1 && a == -1)
}

// slowAgree adds up the columns in which two rows are equal.
func slowAgree(t impl.Table, mode, i, k int) int {
	sum := 0
	for column, bit := range []int{1, 2, 4, 8, 16}[:t.Columns] {
		if slowEqual(mode, t.Rows[i][column], t.Rows[k][column]) {
			sum += bit
		}
	}
	return sum
}

// ascending returns the keys of a set.
func ascending(found map[int]bool) []int {
	var l []int
	for n := range found {
		l = append(l, n)
	}
	slices.Sort(l)
	return l
}

func slowAgreeSets(t impl.Table, mode int) []int {
	found := map[int]bool{}
	for i := range t.Rows {
		for k := range t.Rows {
			if i != k {
				found[slowAgree(t, mode, i, k)] = true
			}
		}
	}
	return ascending(found)
}

// slowDifferenceSets looks at the rows that differ in the column and adds up the others in which they differ.
func slowDifferenceSets(t impl.Table, mode, column int) []int {
	found := map[int]bool{}
	for i, a := range t.Rows {
		for _, b := range t.Rows[:i] {
			if slowEqual(mode, a[column], b[column]) {
				continue
			}
			sum := 0
			for other, bit := range []int{1, 2, 4, 8, 16}[:t.Columns] {
				if other != column && !slowEqual(mode, a[other], b[other]) {
					sum += bit
				}
			}
			found[sum] = true
		}
	}
	return ascending(found)
}

// agreeTables are the written tables and others, of many and of few rows.
func agreeTables() []impl.Table {
	var all []impl.Table
	for _, c := range textOfTable {
		all = append(all, c.table)
	}
	r := rand.New(rand.NewSource(6))
	for range 300 {
		t := randomTable(r)
		all = append(all, t)
		few := min(len(t.Rows), 1+r.Intn(5))
		all = append(all, impl.Table{Columns: t.Columns, Rows: t.Rows[:few]})
	}
	return all
}

// manyRows is a table with so many rows that differ in all columns.
func manyRows(rows, columns int) impl.Table {
	t := tableOf(columns)
	for i := range rows {
		row := make([]int, columns)
		for column := range row {
			row[column] = (i + column) % 41
		}
		t.Rows = append(t.Rows, row)
	}
	return t
}

func TestModes(t *testing.T) {
	if impl.NullsEqual != 0 || impl.NullsApart != 1 {
		t.Error(impl.NullsEqual, impl.NullsApart)
	}
}

func TestEqualCells(t *testing.T) {
	cases := []struct {
		a, b         int
		equal, apart bool
	}{
		{0, 0, true, true},
		{3, 3, true, true},
		{40, 40, true, true},
		{0, 1, false, false},
		{40, 39, false, false},
		{null, null, true, false},
		{null, 0, false, false},
		{null, 1, false, false},
		{null, 40, false, false},
		// values that no table may hold
		{41, 41, true, true},
		{-2, -2, true, true},
		{-2, -1, false, false},
		{41, 42, false, false},
		{1 << 32, 0, false, false},
		{1<<32 - 1, -1, false, false},
		{math.MaxInt, math.MaxInt, true, true},
		{math.MinInt, math.MinInt, true, true},
		{math.MinInt, math.MaxInt, false, false},
		{math.MaxInt, -1, false, false},
		{math.MinInt, 0, false, false},
	}
	for _, c := range cases {
		for _, p := range [][2]int{{c.a, c.b}, {c.b, c.a}} {
			if got := impl.EqualCells(impl.NullsEqual, p[0], p[1]); got != c.equal {
				t.Errorf("EqualCells(NullsEqual, %d, %d) = %v", p[0], p[1], got)
			}
			if got := impl.EqualCells(impl.NullsApart, p[0], p[1]); got != c.apart {
				t.Errorf("EqualCells(NullsApart, %d, %d) = %v", p[0], p[1], got)
			}
		}
	}
}

func TestEqualCellsAll(t *testing.T) {
	for a := -3; a <= 43; a++ {
		for b := -3; b <= 43; b++ {
			for _, mode := range modes {
				if got := impl.EqualCells(mode, a, b); got != slowEqual(mode, a, b) {
					t.Errorf("EqualCells(%d, %d, %d) = %v", mode, a, b, got)
				}
			}
			for _, mode := range badModes {
				if impl.EqualCells(mode, a, b) {
					t.Errorf("EqualCells(%d, %d, %d) = true", mode, a, b)
				}
			}
		}
	}
	for _, mode := range badModes {
		for _, a := range []int{math.MinInt, -2, 41, math.MaxInt} {
			if impl.EqualCells(mode, a, a) {
				t.Errorf("EqualCells(%d, %d, %d) = true", mode, a, a)
			}
		}
	}
}

// agreeTable has nulls in no row, in one row and in both rows of a pair.
var agreeTable = tableOf(5,
	[]int{0, null, 1, 7, null},
	[]int{0, null, 2, null, null},
	[]int{1, null, 2, 7, 5},
	[]int{1, 40, 2, null, 5},
)

func TestAgreeOf(t *testing.T) {
	cases := []struct{ i, k, equal, apart int }{
		{0, 0, 31, 13},
		{1, 1, 31, 5},
		{2, 2, 31, 29},
		{3, 3, 31, 23},
		{0, 1, 19, 1},
		{0, 2, 10, 8},
		{0, 3, 0, 0},
		{1, 2, 6, 4},
		{1, 3, 12, 4},
		{2, 3, 21, 21},
	}
	for _, c := range cases {
		for _, p := range [][2]int{{c.i, c.k}, {c.k, c.i}} {
			if got := impl.AgreeOf(agreeTable, impl.NullsEqual, p[0], p[1]); got != c.equal {
				t.Errorf("AgreeOf(NullsEqual, %d, %d) = %d, want %d", p[0], p[1], got, c.equal)
			}
			if got := impl.AgreeOf(agreeTable, impl.NullsApart, p[0], p[1]); got != c.apart {
				t.Errorf("AgreeOf(NullsApart, %d, %d) = %d, want %d", p[0], p[1], got, c.apart)
			}
		}
	}
}

// TestAgreeOfEveryPair compares with EqualCells and with an equality that does not rest on it.
func TestAgreeOfEveryPair(t *testing.T) {
	for _, table := range agreeTables() {
		for _, mode := range modes {
			for i := range table.Rows {
				for k := range table.Rows {
					got := impl.AgreeOf(table, mode, i, k)
					if want := slowAgree(table, mode, i, k); got != want {
						t.Fatalf("AgreeOf(%v, %d, %d, %d) = %d, want %d", table, mode, i, k, got, want)
					}
					for column := range table.Columns {
						equal := impl.EqualCells(mode, table.Rows[i][column], table.Rows[k][column])
						if equal != (got>>column&1 == 1) {
							t.Fatalf("AgreeOf(%v, %d, %d, %d) = %d, but EqualCells in column %d is %v", table, mode, i, k, got, column, equal)
						}
					}
				}
			}
		}
	}
}

// TestAgreeOfARowWithItself leaves out the columns of its nulls where these are apart.
func TestAgreeOfARowWithItself(t *testing.T) {
	for _, table := range agreeTables() {
		for i, row := range table.Rows {
			all, known := 0, 0
			for column, value := range row {
				all += 1 << column
				if value != null {
					known += 1 << column
				}
			}
			if got := impl.AgreeOf(table, impl.NullsEqual, i, i); got != all {
				t.Errorf("AgreeOf(%v, NullsEqual, %d, %d) = %d, want %d", table, i, i, got, all)
			}
			if got := impl.AgreeOf(table, impl.NullsApart, i, i); got != known {
				t.Errorf("AgreeOf(%v, NullsApart, %d, %d) = %d, want %d", table, i, i, got, known)
			}
		}
	}
}

func TestAgreeOfInvalid(t *testing.T) {
	for _, table := range agreeTables() {
		rows := len(table.Rows)
		for _, mode := range modes {
			for _, place := range []int{math.MinInt, -2, -1, rows, rows + 1, 41, 64, math.MaxInt} {
				for other := -1; other <= rows; other++ {
					if got := impl.AgreeOf(table, mode, place, other); got != 0 {
						t.Fatalf("AgreeOf(%v, %d, %d, %d) = %d, want 0", table, mode, place, other, got)
					}
					if got := impl.AgreeOf(table, mode, other, place); got != 0 {
						t.Fatalf("AgreeOf(%v, %d, %d, %d) = %d, want 0", table, mode, other, place, got)
					}
				}
			}
		}
		for _, mode := range badModes {
			for i := -1; i <= rows; i++ {
				if got := impl.AgreeOf(table, mode, i, 0); got != 0 {
					t.Fatalf("AgreeOf(%v, %d, %d, 0) = %d, want 0", table, mode, i, got)
				}
			}
		}
	}
	for _, bad := range invalidTables {
		for mode := -1; mode <= 2; mode++ {
			for i := -1; i <= 3; i++ {
				for k := -1; k <= 3; k++ {
					if got := impl.AgreeOf(bad, mode, i, k); got != 0 {
						t.Errorf("AgreeOf(%v, %d, %d, %d) = %d, want 0", bad, mode, i, k, got)
					}
				}
			}
		}
	}
}

// TestAgreeOfUnusedCapacity has a row behind the end of the list, within its capacity.
func TestAgreeOfUnusedCapacity(t *testing.T) {
	rows := [][]int{{1}, {1}, {1}}
	table := impl.Table{Columns: 1, Rows: rows[:2]}
	if got := impl.AgreeOf(table, impl.NullsEqual, 0, 2); got != 0 {
		t.Errorf("AgreeOf with a row in the unused capacity = %d, want 0", got)
	}
	if got := impl.AgreeOf(table, impl.NullsEqual, 0, 1); got != 1 {
		t.Errorf("AgreeOf of the last row = %d, want 1", got)
	}
}

func TestAgreeSets(t *testing.T) {
	cases := []struct {
		table        impl.Table
		equal, apart []int
	}{
		{agreeTable, []int{0, 6, 10, 12, 19, 21}, []int{0, 1, 4, 8, 21}},
		// no pair of different places
		{tableOf(1), nil, nil},
		{tableOf(5), nil, nil},
		{tableOf(1, []int{3}), nil, nil},
		{tableOf(5, []int{3, 3, null, 3, 3}), nil, nil},
		// two rows
		{tableOf(1, []int{3}, []int{4}), []int{0}, []int{0}},
		{tableOf(1, []int{3}, []int{3}), []int{1}, []int{1}},
		{tableOf(1, []int{null}, []int{4}), []int{0}, []int{0}},
		{tableOf(1, []int{null}, []int{null}), []int{1}, []int{0}},
		// a row twice, three times and as often as there may be
		{tableOf(3, []int{1, null, 2}, []int{1, null, 2}), []int{7}, []int{5}},
		{repeatedRow(3, 1, null, 2), []int{7}, []int{5}},
		{repeatedRow(40, 1, 2, null, 4, 40), []int{31}, []int{27}},
		{repeatedRow(40, null, null, null, null, null), []int{31}, []int{0}},
		{repeatedRow(40, 0, 0, 0, 0, 0), []int{31}, []int{31}},
		// a row twice, with others between
		{tableOf(2, []int{1, null}, []int{2, 3}, []int{1, null}), []int{0, 3}, []int{0, 1}},
		// as many rows as there may be
		{manyRows(40, 1), []int{0}, []int{0}},
		{manyRows(40, 5), []int{0}, []int{0}},
		// found from large to small, each several times
		{tableOf(2, []int{1, 1}, []int{1, 1}, []int{2, 1}, []int{1, 2}), []int{0, 1, 2, 3}, []int{0, 1, 2, 3}},
	}
	for _, c := range cases {
		if got := impl.AgreeSets(c.table, impl.NullsEqual); !slices.Equal(got, c.equal) {
			t.Errorf("AgreeSets(%v, NullsEqual) = %v, want %v", c.table, got, c.equal)
		}
		if got := impl.AgreeSets(c.table, impl.NullsApart); !slices.Equal(got, c.apart) {
			t.Errorf("AgreeSets(%v, NullsApart) = %v, want %v", c.table, got, c.apart)
		}
	}
}

// TestAgreeSetsOfEachPlace has one pair of rows that agree, at each two places.
func TestAgreeSetsOfEachPlace(t *testing.T) {
	for i := range impl.MaxRows {
		for k := range i {
			table := manyRows(impl.MaxRows, 3)
			table.Rows[i][1] = table.Rows[k][1]
			for _, mode := range modes {
				if got := impl.AgreeSets(table, mode); !slices.Equal(got, []int{0, 2}) {
					t.Fatalf("AgreeSets(%v, %d) = %v, want 0 and 2", table, mode, got)
				}
			}
		}
	}
}

// TestAgreeSetsOfManyTables compares with all pairs of rows, and with AgreeOf for them.
func TestAgreeSetsOfManyTables(t *testing.T) {
	for _, table := range agreeTables() {
		for _, mode := range modes {
			got := impl.AgreeSets(table, mode)
			if want := slowAgreeSets(table, mode); !slices.Equal(got, want) {
				t.Fatalf("AgreeSets(%v, %d) = %v, want %v", table, mode, got, want)
			}
			found := map[int]bool{}
			for i := range table.Rows {
				for k := range i {
					found[impl.AgreeOf(table, mode, i, k)] = true
				}
			}
			if want := ascending(found); !slices.Equal(got, want) {
				t.Fatalf("AgreeSets(%v, %d) = %v, but AgreeOf has %v", table, mode, got, want)
			}
		}
	}
}

func TestAgreeSetsInvalid(t *testing.T) {
	for _, table := range agreeTables() {
		for _, mode := range badModes {
			if got := impl.AgreeSets(table, mode); len(got) != 0 {
				t.Errorf("AgreeSets(%v, %d) = %v, want nothing", table, mode, got)
			}
		}
	}
	for _, bad := range invalidTables {
		for mode := -1; mode <= 2; mode++ {
			if got := impl.AgreeSets(bad, mode); len(got) != 0 {
				t.Errorf("AgreeSets(%v, %d) = %v, want nothing", bad, mode, got)
			}
		}
	}
}

func TestDifferenceSets(t *testing.T) {
	cases := []struct {
		table  impl.Table
		mode   int
		column int
		want   []int
	}{
		// agree sets 0, 6, 10, 12, 19 and 21
		{agreeTable, impl.NullsEqual, 0, []int{18, 20, 24, 30}},
		{agreeTable, impl.NullsEqual, 1, []int{8, 17, 29}},
		{agreeTable, impl.NullsEqual, 2, []int{8, 17, 27}},
		{agreeTable, impl.NullsEqual, 3, []int{2, 4, 17, 23}},
		{agreeTable, impl.NullsEqual, 4, []int{3, 5, 9, 15}},
		// agree sets 0, 1, 4, 8 and 21
		{agreeTable, impl.NullsApart, 0, []int{22, 26, 30}},
		{agreeTable, impl.NullsApart, 1, []int{8, 21, 25, 28, 29}},
		{agreeTable, impl.NullsApart, 2, []int{19, 26, 27}},
		{agreeTable, impl.NullsApart, 3, []int{2, 19, 22, 23}},
		{agreeTable, impl.NullsApart, 4, []int{7, 11, 14, 15}},
		// a row twice: its agree set is left out where it contains the column
		{repeatedRow(2, 1, null, 2), impl.NullsEqual, 0, nil},
		{repeatedRow(2, 1, null, 2), impl.NullsEqual, 1, nil},
		{repeatedRow(2, 1, null, 2), impl.NullsEqual, 2, nil},
		{repeatedRow(2, 1, null, 2), impl.NullsApart, 0, nil},
		{repeatedRow(2, 1, null, 2), impl.NullsApart, 1, []int{0}},
		{repeatedRow(2, 1, null, 2), impl.NullsApart, 2, nil},
		{repeatedRow(40, null, null, null, 0, null), impl.NullsApart, 0, []int{22}},
		{repeatedRow(40, null, null, null, 0, null), impl.NullsApart, 3, nil},
		{repeatedRow(40, null, null, null, 0, null), impl.NullsEqual, 0, nil},
		// no pair of rows
		{tableOf(3), impl.NullsEqual, 0, nil},
		{tableOf(3, []int{1, null, 2}), impl.NullsApart, 1, nil},
		// one column: there is no other one
		{tableOf(1, []int{3}, []int{4}), impl.NullsEqual, 0, []int{0}},
		{tableOf(1, []int{3}, []int{3}), impl.NullsEqual, 0, nil},
		{tableOf(1, []int{null}, []int{null}), impl.NullsEqual, 0, nil},
		{tableOf(1, []int{null}, []int{null}), impl.NullsApart, 0, []int{0}},
		{manyRows(40, 1), impl.NullsApart, 0, []int{0}},
		{manyRows(40, 5), impl.NullsApart, 0, []int{30}},
		{manyRows(40, 5), impl.NullsEqual, 4, []int{15}},
	}
	for _, c := range cases {
		if got := impl.DifferenceSets(c.table, c.mode, c.column); !slices.Equal(got, c.want) {
			t.Errorf("DifferenceSets(%v, %d, %d) = %v, want %v", c.table, c.mode, c.column, got, c.want)
		}
	}
}

// TestDifferenceSetsOfManyTables compares with the pairs of rows, and with what is left of AgreeSets.
func TestDifferenceSetsOfManyTables(t *testing.T) {
	for _, table := range agreeTables() {
		for _, mode := range modes {
			for column := range table.Columns {
				got := impl.DifferenceSets(table, mode, column)
				if want := slowDifferenceSets(table, mode, column); !slices.Equal(got, want) {
					t.Fatalf("DifferenceSets(%v, %d, %d) = %v, want %v", table, mode, column, got, want)
				}
				left := map[int]bool{}
				for _, set := range impl.AgreeSets(table, mode) {
					if set>>column&1 == 0 {
						left[1<<table.Columns-1-set-1<<column] = true
					}
				}
				if want := ascending(left); !slices.Equal(got, want) {
					t.Fatalf("DifferenceSets(%v, %d, %d) = %v, but AgreeSets leaves %v", table, mode, column, got, want)
				}
			}
		}
	}
}

func TestDifferenceSetsInvalid(t *testing.T) {
	for _, table := range agreeTables() {
		n := table.Columns
		for _, mode := range modes {
			for _, column := range []int{math.MinInt, -64, -2, -1, n, n + 1, 5, 6, 63, 64, math.MaxInt} {
				if got := impl.DifferenceSets(table, mode, column); len(got) != 0 {
					t.Fatalf("DifferenceSets(%v, %d, %d) = %v, want nothing", table, mode, column, got)
				}
			}
		}
		for _, mode := range badModes {
			for column := -1; column <= n; column++ {
				if got := impl.DifferenceSets(table, mode, column); len(got) != 0 {
					t.Fatalf("DifferenceSets(%v, %d, %d) = %v, want nothing", table, mode, column, got)
				}
			}
		}
	}
	for _, bad := range invalidTables {
		for mode := -1; mode <= 2; mode++ {
			for column := -1; column <= 7; column++ {
				if got := impl.DifferenceSets(bad, mode, column); len(got) != 0 {
					t.Errorf("DifferenceSets(%v, %d, %d) = %v, want nothing", bad, mode, column, got)
				}
			}
		}
	}
}

// lettersIn reports whether each letter of the set x is one of the set y.
func lettersIn(x, y int) bool {
	for column := range 5 {
		if x>>column&1 > y>>column&1 {
			return false
		}
	}
	return true
}

// slowFilter returns the elements for which no other one is better.
func slowFilter(l []int, better func(y, x int) bool) []int {
	found := map[int]bool{}
	for _, x := range l {
		if !slices.ContainsFunc(l, func(y int) bool { return x != y && better(y, x) }) {
			found[x] = true
		}
	}
	return ascending(found)
}

func slowMaximal(l []int) []int {
	return slowFilter(l, func(y, x int) bool { return lettersIn(x, y) })
}

func slowMinimal(l []int) []int {
	return slowFilter(l, lettersIn)
}

func checkFilters(t *testing.T, l, maximal, minimal []int) {
	t.Helper()
	if got := impl.MaximalSets(l); !slices.Equal(got, maximal) {
		t.Fatalf("MaximalSets(%v) = %v, want %v", l, got, maximal)
	}
	if got := impl.MinimalSets(l); !slices.Equal(got, minimal) {
		t.Fatalf("MinimalSets(%v) = %v, want %v", l, got, minimal)
	}
}

func TestMaximalAndMinimalSets(t *testing.T) {
	cases := []struct{ l, maximal, minimal []int }{
		{nil, nil, nil},
		{[]int{}, nil, nil},
		{[]int{0}, []int{0}, []int{0}},
		{[]int{31}, []int{31}, []int{31}},
		{[]int{9, 9, 9}, []int{9}, []int{9}},
		{[]int{0, 0}, []int{0}, []int{0}},
		{[]int{31, 0}, []int{31}, []int{0}},
		{[]int{31, 0, 6, 31, 0, 6}, []int{31}, []int{0}},
		{[]int{0, 1, 2, 4}, []int{1, 2, 4}, []int{0}},
		{[]int{31, 15, 23, 30}, []int{31}, []int{15, 23, 30}},
		// a chain, from both ends
		{[]int{1, 3, 7, 15}, []int{15}, []int{1}},
		{[]int{15, 7, 3, 1}, []int{15}, []int{1}},
		{[]int{7, 15, 1, 3}, []int{15}, []int{1}},
		// none contains another, out of order
		{[]int{24, 3, 12, 6}, []int{3, 6, 12, 24}, []int{3, 6, 12, 24}},
		{[]int{16, 8, 4, 2, 1}, []int{1, 2, 4, 8, 16}, []int{1, 2, 4, 8, 16}},
		// a greater number is no greater set
		{[]int{7, 8}, []int{7, 8}, []int{7, 8}},
		{[]int{16, 15, 8}, []int{15, 16}, []int{8, 16}},
		{[]int{3, 1, 6, 2, 3}, []int{3, 6}, []int{1, 2}},
		{[]int{28, 4, 20, 3, 28, 19, 4}, []int{19, 28}, []int{3, 4}},
		// a set that is neither
		{[]int{1, 5, 13, 2}, []int{2, 13}, []int{1, 2}},
	}
	for _, c := range cases {
		checkFilters(t, c.l, c.maximal, c.minimal)
	}
}

// TestMaximalAndMinimalSetsOfFewSets tries all lists of at most three elements.
func TestMaximalAndMinimalSetsOfFewSets(t *testing.T) {
	for a := range 32 {
		checkFilters(t, []int{a}, []int{a}, []int{a})
		for b := range 32 {
			l := []int{a, b}
			checkFilters(t, l, slowMaximal(l), slowMinimal(l))
			for c := range 32 {
				l := []int{a, b, c}
				checkFilters(t, l, slowMaximal(l), slowMinimal(l))
			}
		}
	}
}

func TestMaximalAndMinimalSetsOfManySets(t *testing.T) {
	r := rand.New(rand.NewSource(7))
	for range 2000 {
		l := make([]int, r.Intn(101)/(1+r.Intn(20)))
		for i := range l {
			l[i] = r.Intn(32)
		}
		checkFilters(t, l, slowMaximal(l), slowMinimal(l))
	}
}

// TestMaximalAndMinimalSetsLimits counts all elements, also equal ones.
func TestMaximalAndMinimalSetsLimits(t *testing.T) {
	for count := range 210 {
		same := slices.Repeat([]int{5}, count)
		mixed := make([]int, count)
		for i := range mixed {
			mixed[i] = i * 7 % 32
		}
		if count > 100 {
			checkFilters(t, same, nil, nil)
			checkFilters(t, mixed, nil, nil)
			continue
		}
		checkFilters(t, same, slowMaximal(same), slowMinimal(same))
		checkFilters(t, mixed, slowMaximal(mixed), slowMinimal(mixed))
	}
	// The last of as many elements as there may be counts as well.
	last := append(slices.Repeat([]int{6}, 99), 7)
	checkFilters(t, last, []int{7}, []int{6})
	last[99] = 2
	checkFilters(t, last, []int{6}, []int{2})
}

func TestMaximalAndMinimalSetsInvalid(t *testing.T) {
	for _, bad := range invalidSets {
		checkFilters(t, []int{bad}, nil, nil)
		for place := range 4 {
			checkFilters(t, slices.Insert([]int{1, 6, 31}, place, bad), nil, nil)
		}
		checkFilters(t, append(make([]int, 99), bad), nil, nil)
		checkFilters(t, append(make([]int, 100), bad), nil, nil)
	}
}

// TestMaximalSetsAgree looks at agree sets: the maximal ones of them are what is left out by the minimal difference sets.
func TestMaximalSetsAgree(t *testing.T) {
	for _, table := range agreeTables() {
		for _, mode := range modes {
			for column := range table.Columns {
				var without []int
				for _, set := range impl.AgreeSets(table, mode) {
					if set>>column&1 == 0 {
						without = append(without, set)
					}
				}
				var left []int
				for _, set := range impl.MaximalSets(without) {
					left = append(left, 1<<table.Columns-1-set-1<<column)
				}
				slices.Sort(left)
				if got := impl.MinimalSets(impl.DifferenceSets(table, mode, column)); !slices.Equal(got, left) {
					t.Fatalf("%v, mode %d, column %d: minimal difference sets %v, but %v are left", table, mode, column, got, left)
				}
			}
		}
	}
}

// TestAgreeArgumentsStay compares arguments, with their unused capacity, before and after the calls, and after their results were overwritten.
func TestAgreeArgumentsStay(t *testing.T) {
	for _, table := range append(agreeTables(), invalidTables...) {
		a := spareTable(table)
		before := wholeTable(a)
		for mode := -1; mode <= 2; mode++ {
			spoilRow(impl.AgreeSets(a, mode))
			for column := -1; column <= 5; column++ {
				spoilRow(impl.DifferenceSets(a, mode, column))
			}
			for i := -1; i <= min(len(table.Rows), 3); i++ {
				impl.AgreeOf(a, mode, i, 0)
			}
		}
		if after := wholeTable(a); after != before {
			t.Fatalf("%s became %s", before, after)
		}
	}
}

func TestFilterArgumentsStay(t *testing.T) {
	lists := [][]int{nil, {0}, {31}, {1, 2, 4}, {4, 2, 1}, {3, 1, 6, 2, 3}, {31, 0, 31}, {32}, {5, -1}, make([]int, 100), make([]int, 101)}
	for _, l := range lists {
		a := spareRow(l)
		before := slices.Clone(a[:cap(a)])
		spoilRow(impl.MaximalSets(a))
		spoilRow(impl.MinimalSets(a))
		if after := a[:cap(a)]; !slices.Equal(after, before) {
			t.Errorf("%v became %v", before, after)
		}
	}
}

// TestAgreeResultsAreNewMemory overwrites one result and looks at the next one.
func TestAgreeResultsAreNewMemory(t *testing.T) {
	l := []int{3, 1, 6, 2, 3}
	calls := []func() []int{
		func() []int { return impl.AgreeSets(agreeTable, impl.NullsEqual) },
		func() []int { return impl.DifferenceSets(agreeTable, impl.NullsEqual, 0) },
		func() []int { return impl.MaximalSets(l) },
		func() []int { return impl.MinimalSets(l) },
	}
	for i, call := range calls {
		first := call()
		want := slices.Clone(first)
		second := call()
		spoilRow(first)
		if third := call(); !slices.Equal(second, want) || !slices.Equal(third, want) {
			t.Errorf("call %d: %v and %v after a change of an earlier result, want %v", i, second, third, want)
		}
	}
}
