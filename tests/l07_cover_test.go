package tests

import (
	"math"
	"math/bits"
	"math/rand"
	"slices"
	"strings"
	"testing"

	"loop.example/g01988/impl"
)

// Promise 4, for the covers, the border and the keys of a table: minimal dependencies hold and no longer do without any column of Left, each candidate outside the cover has a witness, the border consists of the greatest sets that do not suffice, and the keys are the smallest sets that are unique.

// setsBySize writes down the order that the sets have in covers.
var setsBySize = []int{
	0,
	1, 2, 4, 8, 16,
	3, 5, 6, 9, 10, 12, 17, 18, 20, 24,
	7, 11, 13, 14, 19, 21, 22, 25, 26, 28,
	15, 23, 27, 29, 30,
	31,
}

// farRowCounts are numbers of rows beyond those of any table.
var farRowCounts = []int{41, 100, 1 << 32, math.MaxInt - 1, math.MaxInt}

var negativeRowCounts = []int{-1, -2, -40, -1 << 32, math.MinInt + 1, math.MinInt}

// people has the columns person, city, code of the city and country.
var people = tableOf(4, []int{0, 0, 0, 0}, []int{1, 0, 1, 0}, []int{2, 1, 2, 0}, []int{3, 0, 0, 0})

// crossed has the keys C and any two of A, B and D, so that sets of one column and of two stand beside each other.
var crossed = tableOf(4, []int{0, 0, 0, 0}, []int{0, 1, 1, 1}, []int{1, 0, 2, 1}, []int{1, 1, 3, 0})

// apartPairs has the agree sets AB and C alone, and that of no column.
var apartPairs = tableOf(4, []int{0, 0, 0, 0}, []int{0, 0, 1, 1}, []int{1, 1, 0, 2})

func hasColumn(set, column int) bool {
	return set>>column&1 == 1
}

// setsOf are the sets of so many columns in the order of setsBySize.
func setsOf(columns int) []int {
	var sets []int
	for _, set := range setsBySize {
		if set < 1<<columns {
			sets = append(sets, set)
		}
	}
	return sets
}

// smallerParts are all parts of a set but the set itself.
func smallerParts(set int) []int {
	var parts []int
	for part := range set {
		if part&set == part {
			parts = append(parts, part)
		}
	}
	return parts
}

// isPartOfOne reports whether a set is a part of one of a list.
func isPartOfOne(set int, l []int) bool {
	return slices.ContainsFunc(l, func(greater int) bool { return set&greater == set })
}

// containsOne reports whether one of a list is a part of a set.
func containsOne(set int, l []int) bool {
	return slices.ContainsFunc(l, func(part int) bool { return set&part == part })
}

// textOfCover writes dependencies down with spaces between them, without FormatDep.
func textOfCover(l []impl.Dep) string {
	var words []string
	for _, d := range l {
		words = append(words, textOfSet[d.Left]+">"+"ABCDE"[d.Right:d.Right+1])
	}
	return strings.Join(words, " ")
}

// leftsFor are the sets on the left of the dependencies for one column.
func leftsFor(cover []impl.Dep, right int) []int {
	var lefts []int
	for _, d := range cover {
		if d.Right == right {
			lefts = append(lefts, d.Left)
		}
	}
	return lefts
}

// isCovered looks for a dependency of the cover with the same Right and a part of Left.
func isCovered(cover []impl.Dep, d impl.Dep) bool {
	return containsOne(d.Left, leftsFor(cover, d.Right))
}

// slowCover asks for every candidate whether it suffices, and whether that of any smaller part of Left does.
func slowCover(columns int, suffices func(d impl.Dep) bool) []impl.Dep {
	var cover []impl.Dep
	for right := range columns {
		enough := func(left int) bool { return suffices(impl.Dep{Left: left, Right: right}) }
		for _, left := range setsOf(columns) {
			if !hasColumn(left, right) && enough(left) && !slices.ContainsFunc(smallerParts(left), enough) {
				cover = append(cover, impl.Dep{Left: left, Right: right})
			}
		}
	}
	return cover
}

// slowUnique compares all rows cell by cell.
func slowUnique(t impl.Table, mode, set int) bool {
	return len(slowPartition(t, mode, set)) == 0
}

// coverTables are few enough to try many calls with each.
func coverTables() []impl.Table {
	all := []impl.Table{people, crossed, apartPairs, agreeTable, repeatedRow(2, 0, 1), repeatedRow(3, null, 2, null)}
	for at, table := range agreeTables() {
		if at%16 == 0 || at < len(textOfTable) {
			all = append(all, table)
		}
	}
	return all
}

// rowOfSet has one value in the columns of a set and another one in all others.
func rowOfSet(columns, set, value, other int) []int {
	row := make([]int, columns)
	for column := range row {
		row[column] = other
		if hasColumn(set, column) {
			row[column] = value
		}
	}
	return row
}

// levelTable has as many rows as there may be. For each set of so many columns two rows agree in it, and no rows agree in more. They agree in one value alone, which is none from 1 to 39.
func levelTable(columns, size, value int) impl.Table {
	t := tableOf(columns, rowOfSet(columns, 0, value, value))
	for _, set := range levelOf(columns, size) {
		t.Rows = append(t.Rows, rowOfSet(columns, set, value, len(t.Rows)))
	}
	for len(t.Rows) < impl.MaxRows {
		t.Rows = append(t.Rows, rowOfSet(columns, 0, value, len(t.Rows)))
	}
	return t
}

// levelOf are the sets of so many of the columns.
func levelOf(columns, size int) []int {
	return slices.DeleteFunc(setsOf(columns), func(set int) bool { return bits.OnesCount(uint(set)) != size })
}

// levelCover has all dependencies with so many columns on the left.
func levelCover(columns, size int) []impl.Dep {
	var cover []impl.Dep
	for right := range columns {
		for _, left := range levelOf(columns, size) {
			if !hasColumn(left, right) {
				cover = append(cover, impl.Dep{Left: left, Right: right})
			}
		}
	}
	return cover
}

// checkCover compares a cover with its written form.
func checkCover(t *testing.T, table impl.Table, mode int, want string) {
	t.Helper()
	if got := textOfCover(impl.MinimalDeps(table, mode)); got != want {
		t.Fatalf("MinimalDeps(%v, %d) = %q, want %q", table, mode, got, want)
	}
	if got := textOfCover(impl.ApproximateDeps(table, mode, 0)); got != want {
		t.Fatalf("ApproximateDeps(%v, %d, 0) = %q, want %q", table, mode, got, want)
	}
}

func checkBorder(t *testing.T, table impl.Table, mode, right int, want []int) {
	t.Helper()
	if got := impl.ViolatedBorder(table, mode, right); !slices.Equal(got, want) {
		t.Fatalf("ViolatedBorder(%v, %d, %d) = %v, want %v", table, mode, right, got, want)
	}
}

func checkKeys(t *testing.T, table impl.Table, mode int, want []int) {
	t.Helper()
	if got := impl.MinimalKeys(table, mode); !slices.Equal(got, want) {
		t.Fatalf("MinimalKeys(%v, %d) = %v, want %v", table, mode, got, want)
	}
}

func TestMinimalDeps(t *testing.T) {
	cases := []struct {
		table        impl.Table
		equal, apart string
	}{
		{people, "A>B C>B A>C none>D", "A>B C>B A>C none>D"},
		// sets of one column stand before those of two, also if they are greater as numbers
		{crossed, "C>A BD>A C>B AD>B AB>C AD>C BD>C C>D AB>D", "C>A BD>A C>B AD>B AB>C AD>C BD>C C>D AB>D"},
		{apartPairs, "B>A D>A A>B D>B D>C AC>D BC>D", "B>A D>A A>B D>B D>C AC>D BC>D"},
		{tableOf(2, []int{0, 0}, []int{0, 1}, []int{1, 0}, []int{1, 1}), "", ""},
		{tableOf(2, []int{0, 0}, []int{0, 1}), "none>A", "none>A"},
		{tableOf(2, []int{0, 0}, []int{1, 1}), "B>A A>B", "B>A A>B"},
		{tableOf(3, []int{0, 0, 0}, []int{0, 1, 1}, []int{1, 0, 1}, []int{1, 1, 0}), "BC>A AC>B AB>C", "BC>A AC>B AB>C"},
		// rows that are there twice
		{tableOf(2, []int{0, 1}, []int{0, 1}), "none>A none>B", "none>A none>B"},
		{tableOf(2, []int{0, 1}, []int{1, 1}, []int{0, 1}), "none>B", "none>B"},
		// nulls in Left, in Right and in both
		{tableOf(2, []int{null, 1}, []int{null, 2}), "none>A", "B>A A>B"},
		{tableOf(2, []int{3, null}, []int{3, null}), "none>A none>B", "none>A"},
		{tableOf(2, []int{null, null}, []int{null, null}), "none>A none>B", "B>A A>B"},
		{tableOf(2, []int{null, 1}, []int{0, 1}), "none>B", "none>B"},
		{tableOf(3, []int{3, null, 1}, []int{3, null, 2}), "none>A none>B", "none>A C>B B>C"},
		{tableOf(3, []int{0, null, 1}, []int{0, 0, 1}, []int{1, null, 2}), "C>A A>C", "B>A C>A A>C B>C"},
		// nulls in one row alone
		{tableOf(2, []int{null, 1}, []int{0, 2}, []int{1, 2}), "A>B", "A>B"},
	}
	for _, c := range cases {
		checkCover(t, c.table, impl.NullsEqual, c.equal)
		checkCover(t, c.table, impl.NullsApart, c.apart)
	}
}

// TestMinimalDepsOfManyTables tests every candidate by HoldsDep, and looks at the witness of each one outside.
func TestMinimalDepsOfManyTables(t *testing.T) {
	for _, table := range append(someTables(), tinyTables()...) {
		for _, mode := range modes {
			cover := impl.MinimalDeps(table, mode)
			want := slowCover(table.Columns, func(d impl.Dep) bool { return impl.HoldsDep(table, mode, d) })
			if !slices.Equal(cover, want) {
				t.Fatalf("MinimalDeps(%v, %d) = %q, want %q", table, mode, textOfCover(cover), textOfCover(want))
			}
			for _, d := range depsOf(table.Columns) {
				i, k, found := impl.WitnessOf(table, mode, d)
				if found == (isCovered(cover, d) || hasColumn(d.Left, d.Right)) {
					t.Fatalf("WitnessOf(%v, %d, %v) = %d, %d, %v, but the cover is %q", table, mode, d, i, k, found, textOfCover(cover))
				}
				if found && !slowViolated(table, mode, d, i, k) {
					t.Fatalf("WitnessOf(%v, %d, %v) = %d, %d, which do not violate it", table, mode, d, i, k)
				}
			}
		}
	}
}

// TestMinimalDepsOfRows compares all rows cell by cell, without the functions of chapter 6.
func TestMinimalDepsOfRows(t *testing.T) {
	r := rand.New(rand.NewSource(15))
	tables := coverTables()
	for range 200 {
		tables = append(tables, smallTable(r, 7))
	}
	for _, table := range tables {
		for _, mode := range modes {
			want := slowCover(table.Columns, func(d impl.Dep) bool {
				_, _, found := slowWitness(table, mode, d)
				return !found
			})
			checkCover(t, table, mode, textOfCover(want))
		}
	}
}

func TestIsMinimalDep(t *testing.T) {
	cases := []struct {
		table        impl.Table
		left, right  int
		equal, apart bool
	}{
		{people, 4, 1, true, true},
		{people, 1, 1, true, true},
		{people, 5, 1, false, false},
		// Right is in Left
		{people, 2, 1, false, false},
		{people, 3, 1, false, false},
		{people, 8, 3, false, false},
		{people, 2, 2, false, false},
		{people, 0, 3, true, true},
		{people, 1, 3, false, false},
		{people, 14, 0, false, false},
		{crossed, 3, 3, true, true},
		{crossed, 7, 3, false, false},
		{crossed, 5, 3, false, false},
		{crossed, 6, 3, false, false},
		{crossed, 1, 3, false, false},
		// the column that is not needed is the first, the second or the last one of Left
		{tableOf(4, []int{0, 0, 0, 0}, []int{0, 0, 1, 1}, []int{0, 1, 0, 2}, []int{0, 1, 1, 3}), 7, 3, false, false},
		{tableOf(4, []int{0, 0, 0, 0}, []int{0, 0, 1, 1}, []int{1, 0, 0, 2}, []int{1, 0, 1, 3}), 7, 3, false, false},
		{tableOf(4, []int{0, 0, 0, 0}, []int{0, 1, 0, 1}, []int{1, 0, 0, 2}, []int{1, 1, 0, 3}), 7, 3, false, false},
		{levelTable(4, 2, 0), 7, 3, true, true},
		// none of the columns is needed
		{tableOf(3, []int{0, 0, 5}, []int{1, 1, 5}), 3, 2, false, false},
		{tableOf(3, []int{0, 0, 5}, []int{1, 1, 5}), 0, 2, true, true},
		// either of two columns is enough
		{tableOf(3, []int{0, 0, 4}, []int{1, 1, 5}), 3, 2, false, false},
		{tableOf(3, []int{0, 0, 4}, []int{1, 1, 5}), 2, 2, true, true},
		// nulls
		{tableOf(2, []int{null, 1}, []int{null, 2}), 0, 0, true, false},
		{tableOf(2, []int{null, 1}, []int{null, 2}), 2, 0, false, true},
		{tableOf(2, []int{null, 1}, []int{null, 2}), 1, 1, false, true},
		{tableOf(2, []int{null, 1}, []int{null, 2}), 1, 0, false, false},
		{tableOf(3, []int{3, null, 1}, []int{3, null, 2}), 4, 1, false, true},
		{tableOf(3, []int{3, null, 1}, []int{3, null, 2}), 3, 2, false, false},
	}
	for _, c := range cases {
		d := impl.Dep{Left: c.left, Right: c.right}
		for mode, want := range []bool{c.equal, c.apart} {
			if got := impl.IsMinimalDep(c.table, mode, d); got != want {
				t.Errorf("IsMinimalDep(%v, %d, %v) = %v, want %v", c.table, mode, d, got, want)
			}
		}
	}
}

// TestIsMinimalDepOfEveryDep compares with MinimalDeps, also for columns that the table does not have.
func TestIsMinimalDepOfEveryDep(t *testing.T) {
	for _, table := range append(someTables(), tinyTables()...) {
		for _, mode := range modes {
			cover := impl.MinimalDeps(table, mode)
			for _, d := range append(depsOf(5), badDepsOf(table.Columns)...) {
				if got := impl.IsMinimalDep(table, mode, d); got != slices.Contains(cover, d) {
					t.Fatalf("IsMinimalDep(%v, %d, %v) = %v, but the cover is %q", table, mode, d, got, textOfCover(cover))
				}
			}
		}
	}
}

// TestIsMinimalDepInvalid has tables in which every valid dependency holds.
func TestIsMinimalDepInvalid(t *testing.T) {
	for columns := 1; columns <= 5; columns++ {
		for _, table := range []impl.Table{tableOf(columns), manyRows(1, columns), repeatedRow(3, make([]int, columns)...)} {
			for _, mode := range modes {
				for _, d := range badDepsOf(columns) {
					if impl.IsMinimalDep(table, mode, d) {
						t.Errorf("IsMinimalDep(%v, %d, %v) = true", table, mode, d)
					}
				}
				for _, d := range depsOf(columns) {
					if got := impl.IsMinimalDep(table, mode, d); got != (d.Left == 0) {
						t.Errorf("IsMinimalDep(%v, %d, %v) = %v", table, mode, d, got)
					}
				}
			}
		}
	}
}

func TestViolatedBorder(t *testing.T) {
	cases := []struct {
		table        impl.Table
		right        int
		equal, apart []int
	}{
		{people, 0, []int{14}, []int{14}},
		{people, 1, []int{8}, []int{8}},
		{people, 2, []int{10}, []int{10}},
		{people, 3, nil, nil},
		{crossed, 0, []int{2, 8}, []int{2, 8}},
		{crossed, 2, []int{1, 2, 8}, []int{1, 2, 8}},
		{crossed, 3, []int{1, 2}, []int{1, 2}},
		// a set of two columns stands before one of one column that is greater as a number
		{apartPairs, 3, []int{3, 4}, []int{3, 4}},
		{apartPairs, 2, []int{3}, []int{3}},
		{apartPairs, 0, []int{4}, []int{4}},
		// no other column, or no other one that suffices
		{tableOf(1, []int{0}, []int{1}), 0, []int{0}, []int{0}},
		{tableOf(2, []int{0, 0}, []int{0, 1}), 1, []int{1}, []int{1}},
		{tableOf(2, []int{0, 0}, []int{1, 1}), 1, []int{0}, []int{0}},
		// every set suffices
		{tableOf(2, []int{0, 0}, []int{0, 1}), 0, nil, nil},
		{tableOf(1, []int{3}, []int{3}), 0, nil, nil},
		// nulls
		{tableOf(2, []int{null, 1}, []int{null, 2}), 0, nil, []int{0}},
		{tableOf(2, []int{null, 1}, []int{null, 2}), 1, []int{1}, []int{0}},
		{tableOf(2, []int{3, null}, []int{3, null}), 1, nil, []int{1}},
		{tableOf(3, []int{3, null, 1}, []int{3, null, 2}), 2, []int{3}, []int{1}},
		{tableOf(3, []int{3, null, 1}, []int{3, null, 2}), 1, nil, []int{1}},
	}
	for _, c := range cases {
		checkBorder(t, c.table, impl.NullsEqual, c.right, c.equal)
		checkBorder(t, c.table, impl.NullsApart, c.right, c.apart)
	}
}

// TestViolatedBorderOfEveryColumn looks at each set without the column: those of the border do not suffice, greater ones do, and what does not suffice is part of one of them.
func TestViolatedBorderOfEveryColumn(t *testing.T) {
	for _, table := range append(someTables(), tinyTables()...) {
		for _, mode := range modes {
			for right := range table.Columns {
				border := impl.ViolatedBorder(table, mode, right)
				if !slices.IsSorted(border) || len(slices.Compact(slices.Clone(border))) != len(border) {
					t.Fatalf("ViolatedBorder(%v, %d, %d) = %v is not ascending", table, mode, right, border)
				}
				suffices := map[int]bool{}
				for _, left := range setsOf(table.Columns) {
					if !hasColumn(left, right) {
						suffices[left] = impl.HoldsDep(table, mode, impl.Dep{Left: left, Right: right})
					}
				}
				checkBorderSets(t, suffices, border)
			}
		}
	}
}

// checkBorderSets is told of each set without a column whether it suffices.
func checkBorderSets(t *testing.T, suffices map[int]bool, border []int) {
	t.Helper()
	for _, set := range border {
		if enough, known := suffices[set]; enough || !known {
			t.Fatalf("the border is %v, but of %d it is known: %v, that it suffices: %v", border, set, known, enough)
		}
	}
	for left, enough := range suffices {
		if enough == isPartOfOne(left, border) {
			t.Fatalf("the border is %v, but of %d it is %v that it suffices", border, left, enough)
		}
		for _, set := range border {
			if left != set && left&set == set && !enough {
				t.Fatalf("the border is %v, but the greater set %d does not suffice", border, left)
			}
		}
	}
}

// TestViolatedBorderAndOthers compares the border with the cover, which is what it leaves, and with the agree sets, which are what it is made of.
func TestViolatedBorderAndOthers(t *testing.T) {
	for _, table := range append(someTables(), tinyTables()...) {
		for _, mode := range modes {
			cover := impl.MinimalDeps(table, mode)
			for right := range table.Columns {
				border, lefts := impl.ViolatedBorder(table, mode, right), leftsFor(cover, right)
				for _, set := range setsOf(table.Columns) {
					if !hasColumn(set, right) && isPartOfOne(set, border) == containsOne(set, lefts) {
						t.Fatalf("%v, mode %d: the set %d, the border %v of %d and the cover %v", table, mode, set, border, right, lefts)
					}
				}
				without := slices.DeleteFunc(impl.AgreeSets(table, mode), func(set int) bool { return hasColumn(set, right) })
				if want := impl.MaximalSets(without); !slices.Equal(border, want) {
					t.Fatalf("ViolatedBorder(%v, %d, %d) = %v, but the agree sets are %v", table, mode, right, border, without)
				}
			}
		}
	}
}

func TestViolatedBorderOfNoColumn(t *testing.T) {
	for _, table := range append(coverTables(), manyRows(40, 1), manyRows(40, 5), tinyTables()[5]) {
		for mode := -1; mode <= 2; mode++ {
			for _, right := range []int{math.MinInt, -64, -5, -1, table.Columns, table.Columns + 1, 5, 6, 63, 64, 1 << 32, math.MaxInt} {
				checkBorder(t, table, mode, right, nil)
			}
		}
	}
}

func TestMinimalKeys(t *testing.T) {
	cases := []struct {
		table        impl.Table
		equal, apart []int
	}{
		{people, []int{1}, []int{1}},
		// keys of two columns stand before one of one column that is greater as a number
		{crossed, []int{3, 4, 9, 10}, []int{3, 4, 9, 10}},
		{apartPairs, []int{5, 6, 8}, []int{5, 6, 8}},
		{tableOf(2, []int{0, 0}, []int{0, 1}, []int{1, 0}, []int{1, 1}), []int{3}, []int{3}},
		{tableOf(2, []int{0, 0}, []int{1, 1}), []int{1, 2}, []int{1, 2}},
		// no row and one row
		{tableOf(2), []int{0}, []int{0}},
		{tableOf(1), []int{0}, []int{0}},
		{tableOf(5), []int{0}, []int{0}},
		{tableOf(2, []int{0, 1}), []int{0}, []int{0}},
		{tableOf(2, []int{null, null}), []int{0}, []int{0}},
		// rows that are there twice
		{tableOf(2, []int{0, 1}, []int{0, 1}), nil, nil},
		{tableOf(2, []int{0, 1}, []int{1, 1}, []int{2, 1}, []int{0, 1}), nil, nil},
		{tableOf(1, []int{0}, []int{0}), nil, nil},
		// such rows that nulls keep apart
		{tableOf(1, []int{null}, []int{null}), nil, []int{1}},
		{tableOf(2, []int{0, null}, []int{0, null}), nil, []int{2}},
		{tableOf(2, []int{null, 0}, []int{null, 0}), nil, []int{1}},
		{tableOf(2, []int{null, null}, []int{null, null}), nil, []int{1, 2}},
		{tableOf(3, []int{0, null, 1}, []int{0, null, 1}, []int{0, 0, 1}), nil, []int{2}},
		{tableOf(3, []int{0, null, 1}, []int{0, null, 1}, []int{null, 0, 1}, []int{null, 0, 1}), nil, []int{3}},
		// others stay
		{tableOf(2, []int{0, null}, []int{0, null}, []int{0, 1}, []int{0, 1}), nil, nil},
		// rows with nulls that are not there twice
		{tableOf(2, []int{null, 0}, []int{null, 1}), []int{2}, []int{1, 2}},
		{tableOf(2, []int{null, 0}, []int{0, 0}), []int{1}, []int{1}},
	}
	for _, c := range cases {
		checkKeys(t, c.table, impl.NullsEqual, c.equal)
		checkKeys(t, c.table, impl.NullsApart, c.apart)
	}
}

// TestMinimalKeysOfManyTables asks IsUnique for every set.
func TestMinimalKeysOfManyTables(t *testing.T) {
	for _, table := range append(someTables(), tinyTables()...) {
		for _, mode := range modes {
			keys := impl.MinimalKeys(table, mode)
			if !slices.IsSorted(keys) || len(slices.Compact(slices.Clone(keys))) != len(keys) {
				t.Fatalf("MinimalKeys(%v, %d) = %v is not ascending", table, mode, keys)
			}
			for _, key := range keys {
				unique := func(set int) bool { return impl.IsUnique(table, mode, set) }
				if !unique(key) || slices.ContainsFunc(smallerParts(key), unique) {
					t.Fatalf("MinimalKeys(%v, %d) = %v, but %d is none", table, mode, keys, key)
				}
			}
			for _, set := range setsOf(table.Columns) {
				if got := impl.IsUnique(table, mode, set); got != containsOne(set, keys) || got != slowUnique(table, mode, set) {
					t.Fatalf("IsUnique(%v, %d, %d) = %v, but the keys are %v", table, mode, set, got, keys)
				}
			}
		}
	}
}

// TestKeysAndCover asks the cover for the keys: if not even all columns are unique there is none, and otherwise a set is unique if every column follows from it.
func TestKeysAndCover(t *testing.T) {
	for _, table := range append(someTables(), tinyTables()...) {
		for _, mode := range modes {
			cover := impl.MinimalDeps(table, mode)
			all := impl.IsUnique(table, mode, 1<<table.Columns-1)
			for _, set := range setsOf(table.Columns) {
				want := all
				for right := range table.Columns {
					want = want && (hasColumn(set, right) || isCovered(cover, impl.Dep{Left: set, Right: right}))
				}
				if got := impl.IsUnique(table, mode, set); got != want {
					t.Fatalf("IsUnique(%v, %d, %d) = %v, but the cover is %q", table, mode, set, got, textOfCover(cover))
				}
			}
		}
	}
}

func TestIsUnique(t *testing.T) {
	cases := []struct {
		table        impl.Table
		set          int
		equal, apart bool
	}{
		{people, 3, true, true},
		{people, 1, true, true},
		{people, 14, false, false},
		{people, 15, true, true},
		// the empty set with no row, one row and two
		{tableOf(3), 0, true, true},
		{tableOf(3, []int{0, 1, 2}), 0, true, true},
		{tableOf(1, []int{null}), 0, true, true},
		{tableOf(3, []int{0, 1, 2}, []int{3, 4, 5}), 0, false, false},
		{tableOf(1, []int{null}, []int{null}), 0, false, false},
		{tableOf(1, []int{null}, []int{0}), 0, false, false},
		// all columns
		{tableOf(2, []int{0, 1}, []int{0, 1}), 3, false, false},
		{tableOf(2, []int{0, 1}, []int{0, 2}), 3, true, true},
		// nulls in both rows, in one of them, in one of two columns
		{tableOf(1, []int{null}, []int{null}), 1, false, true},
		{tableOf(1, []int{null}, []int{0}), 1, true, true},
		{tableOf(2, []int{0, null}, []int{0, null}), 1, false, false},
		{tableOf(2, []int{0, null}, []int{0, null}), 2, false, true},
		{tableOf(2, []int{0, null}, []int{0, null}), 3, false, true},
		// the rows that are equal are the first and the last ones
		{tableOf(1, []int{3}, []int{3}, []int{4}, []int{5}), 1, false, false},
		{tableOf(1, []int{3}, []int{4}, []int{5}, []int{5}), 1, false, false},
		{tableOf(1, []int{3}, []int{4}, []int{5}, []int{3}), 1, false, false},
	}
	for _, c := range cases {
		for mode, want := range []bool{c.equal, c.apart} {
			if got := impl.IsUnique(c.table, mode, c.set); got != want {
				t.Errorf("IsUnique(%v, %d, %d) = %v, want %v", c.table, mode, c.set, got, want)
			}
		}
	}
}

// TestIsUniqueOfNoSet has sets with columns that the table does not have, and numbers that are no set at all.
func TestIsUniqueOfNoSet(t *testing.T) {
	for columns := 1; columns <= 5; columns++ {
		for _, table := range []impl.Table{tableOf(columns), manyRows(1, columns), manyRows(40, columns)} {
			for _, mode := range modes {
				for set := 1 << columns; set < 70; set++ {
					if impl.IsUnique(table, mode, set) {
						t.Errorf("IsUnique(%v, %d, %d) = true", table, mode, set)
					}
				}
				for _, set := range append([]int{-1 << columns, 1<<columns + 1<<40}, invalidSets...) {
					if impl.IsUnique(table, mode, set) {
						t.Errorf("IsUnique(%v, %d, %d) = true", table, mode, set)
					}
				}
			}
		}
	}
}

func TestApproximateDeps(t *testing.T) {
	// One row more than crossed has, with another value of D.
	disturbed := tableOf(4, append(slices.Clone(crossed.Rows), []int{0, 0, 0, 5})...)
	cases := []struct {
		table impl.Table
		mode  int
		rows  int
		want  string
	}{
		{people, 0, 0, "A>B C>B A>C none>D"},
		{people, 0, 1, "C>A none>B A>C B>C none>D"},
		{people, 0, 2, "B>A C>A none>B none>C none>D"},
		{people, 0, 3, "none>A none>B none>C none>D"},
		{people, 0, 4, "none>A none>B none>C none>D"},
		{disturbed, 1, 0, "C>A BD>A C>B AD>B AB>C AD>C BD>C"},
		{disturbed, 1, 1, "C>A BD>A C>B AD>B AB>C AD>C BD>C C>D AB>D"},
		{disturbed, 1, 2, "none>A none>B A>C B>C D>C C>D AB>D"},
		{disturbed, 1, 3, "none>A none>B none>C none>D"},
		{disturbed, 1, 5, "none>A none>B none>C none>D"},
		// nulls
		{tableOf(2, []int{3, null}, []int{3, null}), 0, 0, "none>A none>B"},
		{tableOf(2, []int{3, null}, []int{3, null}), 1, 0, "none>A"},
		{tableOf(2, []int{3, null}, []int{3, null}), 1, 1, "none>A none>B"},
		{tableOf(2, []int{null, 1}, []int{null, 2}, []int{null, 2}), 0, 0, "none>A"},
		{tableOf(2, []int{null, 1}, []int{null, 2}, []int{null, 2}), 1, 0, "A>B"},
		{tableOf(2, []int{null, 1}, []int{null, 2}, []int{null, 2}), 0, 1, "none>A none>B"},
		{tableOf(2, []int{null, 1}, []int{null, 2}, []int{null, 2}), 1, 1, "B>A none>B"},
		{tableOf(2, []int{null, 1}, []int{null, 2}, []int{null, 2}), 1, 2, "none>A none>B"},
		// no row, and one column
		{tableOf(3), 0, 0, "none>A none>B none>C"},
		{tableOf(3), 1, 1, "none>A none>B none>C"},
		{tableOf(1, []int{0}, []int{1}), 0, 0, ""},
		{tableOf(1, []int{0}, []int{1}), 0, 1, "none>A"},
	}
	for _, c := range cases {
		if got := textOfCover(impl.ApproximateDeps(c.table, c.mode, c.rows)); got != c.want {
			t.Errorf("ApproximateDeps(%v, %d, %d) = %q, want %q", c.table, c.mode, c.rows, got, c.want)
		}
	}
}

// TestApproximateDepsOfEveryRowCount asks RowsToRemove for every set without the column.
func TestApproximateDepsOfEveryRowCount(t *testing.T) {
	for _, table := range append(coverTables(), tinyTables()[:91]...) {
		for _, mode := range modes {
			removed := map[impl.Dep]int{}
			for _, d := range depsOf(table.Columns) {
				removed[d] = impl.RowsToRemove(table, mode, d)
			}
			for rows := 0; rows <= len(table.Rows); rows++ {
				want := slowCover(table.Columns, func(d impl.Dep) bool { return removed[d] <= rows })
				if got := impl.ApproximateDeps(table, mode, rows); !slices.Equal(got, want) {
					t.Fatalf("ApproximateDeps(%v, %d, %d) = %q, want %q", table, mode, rows, textOfCover(got), textOfCover(want))
				}
			}
		}
	}
}

// TestApproximateDepsOfEveryChoice tries all choices of rows in small tables.
func TestApproximateDepsOfEveryChoice(t *testing.T) {
	r := rand.New(rand.NewSource(16))
	for range 60 {
		table := smallTable(r, 6)
		for _, mode := range modes {
			for rows := range len(table.Rows) + 1 {
				want := slowCover(table.Columns, func(d impl.Dep) bool { return slowRemoved(table, mode, d) <= rows })
				if got := impl.ApproximateDeps(table, mode, rows); !slices.Equal(got, want) {
					t.Fatalf("ApproximateDeps(%v, %d, %d) = %q, want %q", table, mode, rows, textOfCover(got), textOfCover(want))
				}
			}
		}
	}
}

// TestApproximateDepsWithoutRemoval has no row that may be removed.
func TestApproximateDepsWithoutRemoval(t *testing.T) {
	for _, table := range append(someTables(), tinyTables()...) {
		for _, mode := range modes {
			got, want := impl.ApproximateDeps(table, mode, 0), impl.MinimalDeps(table, mode)
			if !slices.Equal(got, want) {
				t.Fatalf("ApproximateDeps(%v, %d, 0) = %q, but MinimalDeps is %q", table, mode, textOfCover(got), textOfCover(want))
			}
		}
	}
}

// TestApproximateDepsOfFarRowCounts has negative numbers of rows, and those with which nothing is left that could be violated.
func TestApproximateDepsOfFarRowCounts(t *testing.T) {
	for _, table := range coverTables() {
		for _, mode := range modes {
			enough := append([]int{max(len(table.Rows)-1, 0), len(table.Rows), len(table.Rows) + 1}, farRowCounts...)
			for _, rows := range enough {
				if got, want := impl.ApproximateDeps(table, mode, rows), levelCover(table.Columns, 0); !slices.Equal(got, want) {
					t.Fatalf("ApproximateDeps(%v, %d, %d) = %q, want %q", table, mode, rows, textOfCover(got), textOfCover(want))
				}
			}
			for _, rows := range negativeRowCounts {
				if got := impl.ApproximateDeps(table, mode, rows); len(got) != 0 {
					t.Fatalf("ApproximateDeps(%v, %d, %d) = %q, want nothing", table, mode, rows, textOfCover(got))
				}
			}
		}
	}
}

// TestCoversOfOneValue has a column with one value beside others that are different in every row.
func TestCoversOfOneValue(t *testing.T) {
	for columns := 1; columns <= 5; columns++ {
		for right := range columns {
			for _, value := range []int{null, 0, 40} {
				table := manyRows(5, columns)
				for _, row := range table.Rows {
					row[right] = value
				}
				for _, mode := range modes {
					constant := value != null || mode == impl.NullsEqual
					want := []impl.Dep{{Left: 0, Right: right}}
					if !constant {
						want = slices.DeleteFunc(levelCover(columns, 1), func(d impl.Dep) bool { return d.Right != right })
					}
					cover := slices.DeleteFunc(impl.MinimalDeps(table, mode), func(d impl.Dep) bool { return d.Right != right })
					if !slices.Equal(cover, want) {
						t.Errorf("MinimalDeps(%v, %d) has %q, want %q", table, mode, textOfCover(cover), textOfCover(want))
					}
					if got := impl.IsMinimalDep(table, mode, impl.Dep{Left: 0, Right: right}); got != constant {
						t.Errorf("IsMinimalDep(%v, %d, none>%d) = %v", table, mode, right, got)
					}
					if got := impl.IsUnique(table, mode, 1<<right); got == constant {
						t.Errorf("IsUnique(%v, %d, %d) = %v", table, mode, 1<<right, got)
					}
					border := []int{0}
					if constant {
						border = nil
					}
					checkBorder(t, table, mode, right, border)
				}
			}
		}
	}
}

// TestCoversOfFewRows has tables of no row and of one row, in which the empty set is enough for everything.
func TestCoversOfFewRows(t *testing.T) {
	row := []int{null, 0, null, 40, 7}
	for columns := 1; columns <= 5; columns++ {
		for _, table := range []impl.Table{tableOf(columns), tableOf(columns, row[:columns]), repeatedRow(1, slices.Repeat([]int{null}, columns)...)} {
			for _, mode := range modes {
				checkCover(t, table, mode, textOfCover(levelCover(columns, 0)))
				checkKeys(t, table, mode, []int{0})
				for right := range columns {
					checkBorder(t, table, mode, right, nil)
				}
			}
		}
	}
}

// TestCoversOfOneColumn has no other column than Right.
func TestCoversOfOneColumn(t *testing.T) {
	cases := []struct {
		values                 []int
		coverEqual, coverApart string
		keysEqual, keysApart   []int
	}{
		{nil, "none>A", "none>A", []int{0}, []int{0}},
		{[]int{0}, "none>A", "none>A", []int{0}, []int{0}},
		{[]int{null}, "none>A", "none>A", []int{0}, []int{0}},
		{[]int{0, 0}, "none>A", "none>A", nil, nil},
		{[]int{0, 1}, "", "", []int{1}, []int{1}},
		{[]int{0, 1, 0}, "", "", nil, nil},
		{[]int{null, null}, "none>A", "", nil, []int{1}},
		{[]int{null, 0}, "", "", []int{1}, []int{1}},
		{[]int{null, 0, null}, "", "", nil, []int{1}},
		{[]int{null, null, null}, "none>A", "", nil, []int{1}},
	}
	for _, c := range cases {
		table := tableOf(1)
		for _, value := range c.values {
			table.Rows = append(table.Rows, []int{value})
		}
		checkCover(t, table, impl.NullsEqual, c.coverEqual)
		checkCover(t, table, impl.NullsApart, c.coverApart)
		checkKeys(t, table, impl.NullsEqual, c.keysEqual)
		checkKeys(t, table, impl.NullsApart, c.keysApart)
		for mode, cover := range []string{c.coverEqual, c.coverApart} {
			border := []int{0}
			if cover != "" {
				border = nil
			}
			checkBorder(t, table, mode, 0, border)
		}
	}
}

// TestCoversOfModes has a table with nulls in every column, in which the two modes differ in the cover, in the borders and in the keys.
func TestCoversOfModes(t *testing.T) {
	table := tableOf(3, []int{null, 1, 2}, []int{null, 1, 2}, []int{0, null, 3}, []int{0, null, 4}, []int{1, 5, null}, []int{2, 5, null})
	cases := []struct {
		cover   string
		borders [3][]int
		keys    []int
	}{
		{"A>B C>B", [3][]int{{6}, {0}, {3}}, nil},
		{"C>B AB>C", [3][]int{{6}, {1}, {1, 2}}, []int{3, 5}},
	}
	for mode, c := range cases {
		checkCover(t, table, mode, c.cover)
		checkKeys(t, table, mode, c.keys)
		for right, border := range c.borders {
			checkBorder(t, table, mode, right, border)
		}
	}
}

// TestCoversWithoutNulls expects that both modes are the same without nulls.
func TestCoversWithoutNulls(t *testing.T) {
	for _, withNulls := range coverTables() {
		table := tableOf(withNulls.Columns)
		for _, row := range withNulls.Rows {
			known := make([]int, len(row))
			for column, value := range row {
				known[column] = max(value, 0)
			}
			table.Rows = append(table.Rows, known)
		}
		checkCover(t, table, impl.NullsApart, textOfCover(impl.MinimalDeps(table, impl.NullsEqual)))
		checkKeys(t, table, impl.NullsApart, impl.MinimalKeys(table, impl.NullsEqual))
		for right := range table.Columns {
			checkBorder(t, table, impl.NullsApart, right, impl.ViolatedBorder(table, impl.NullsEqual, right))
		}
		for rows := range 4 {
			if got, want := impl.ApproximateDeps(table, impl.NullsApart, rows), impl.ApproximateDeps(table, impl.NullsEqual, rows); !slices.Equal(got, want) {
				t.Fatalf("ApproximateDeps(%v, 1, %d) = %q, but %q with nulls equal", table, rows, textOfCover(got), textOfCover(want))
			}
		}
	}
}

// checkLevel expects that just the sets of more than so many columns suffice and are unique.
func checkLevel(t *testing.T, table impl.Table, mode, size int) {
	t.Helper()
	checkCover(t, table, mode, textOfCover(levelCover(table.Columns, size+1)))
	checkKeys(t, table, mode, levelOf(table.Columns, size+1))
	for right := range table.Columns {
		border := slices.DeleteFunc(levelOf(table.Columns, size), func(set int) bool { return hasColumn(set, right) })
		checkBorder(t, table, mode, right, border)
	}
	for _, d := range depsOf(table.Columns) {
		want := bits.OnesCount(uint(d.Left)) == size+1 && !hasColumn(d.Left, d.Right)
		if got := impl.IsMinimalDep(table, mode, d); got != want {
			t.Fatalf("IsMinimalDep(%v, %d, %v) = %v", table, mode, d, got)
		}
	}
	for _, set := range setsOf(table.Columns) {
		if got := impl.IsUnique(table, mode, set); got != (bits.OnesCount(uint(set)) > size) {
			t.Fatalf("IsUnique(%v, %d, %d) = %v", table, mode, set, got)
		}
	}
}

// TestCoversOfMaxRows has as many rows as there may be, which agree in as many columns as there may be, or in fewer.
func TestCoversOfMaxRows(t *testing.T) {
	for columns := 1; columns <= impl.MaxColumns; columns++ {
		for size := range columns {
			for _, mode := range modes {
				checkLevel(t, levelTable(columns, size, 0), mode, size)
				checkLevel(t, levelTable(columns, size, 40), mode, size)
			}
			// Kept apart, nulls agree in nothing.
			checkLevel(t, levelTable(columns, size, null), impl.NullsEqual, size)
			checkLevel(t, levelTable(columns, size, null), impl.NullsApart, 0)
		}
	}
}

// TestCoversOfEqualRows has the same row as many times as there may be rows.
func TestCoversOfEqualRows(t *testing.T) {
	for columns := 1; columns <= impl.MaxColumns; columns++ {
		known := repeatedRow(impl.MaxRows, slices.Repeat([]int{40}, columns)...)
		nulls := repeatedRow(impl.MaxRows, slices.Repeat([]int{null}, columns)...)
		for _, mode := range modes {
			checkCover(t, known, mode, textOfCover(levelCover(columns, 0)))
			checkKeys(t, known, mode, nil)
		}
		checkCover(t, nulls, impl.NullsEqual, textOfCover(levelCover(columns, 0)))
		checkKeys(t, nulls, impl.NullsEqual, nil)
		checkLevel(t, nulls, impl.NullsApart, 0)
		for right := range columns {
			checkBorder(t, known, impl.NullsEqual, right, nil)
			checkBorder(t, known, impl.NullsApart, right, nil)
			checkBorder(t, nulls, impl.NullsEqual, right, nil)
		}
	}
}

// TestCoversOfEachPlace has two rows that agree in B alone, at each two places.
func TestCoversOfEachPlace(t *testing.T) {
	for k := range impl.MaxRows {
		for i := range k {
			table := manyRows(impl.MaxRows, 3)
			table.Rows[k][1] = table.Rows[i][1]
			checkCover(t, table, k%2, "C>A A>B C>B A>C")
			checkKeys(t, table, k%2, []int{1, 4})
			checkBorder(t, table, k%2, 0, []int{2})
			checkBorder(t, table, k%2, 1, []int{0})
			if impl.IsUnique(table, k%2, 2) || !impl.IsUnique(table, k%2, 3) {
				t.Fatalf("IsUnique(%v, %d, 2) or that of 3", table, k%2)
			}
		}
	}
}

// checkNoCover expects that every function returns nothing, for arguments that are valid for other tables and modes and for others.
func checkNoCover(t *testing.T, table impl.Table, mode int) {
	t.Helper()
	checkKeys(t, table, mode, nil)
	if got := impl.MinimalDeps(table, mode); len(got) != 0 {
		t.Fatalf("MinimalDeps(%v, %d) = %v, want nothing", table, mode, got)
	}
	for _, rows := range []int{math.MinInt, -1, 0, 1, 39, 40, 41, math.MaxInt} {
		if got := impl.ApproximateDeps(table, mode, rows); len(got) != 0 {
			t.Fatalf("ApproximateDeps(%v, %d, %d) = %v, want nothing", table, mode, rows, got)
		}
	}
	for right := -1; right <= 6; right++ {
		checkBorder(t, table, mode, right, nil)
	}
	for set := -1; set <= 32; set++ {
		if impl.IsUnique(table, mode, set) {
			t.Fatalf("IsUnique(%v, %d, %d) = true", table, mode, set)
		}
	}
	for _, d := range append(depsOf(5), badDepsOf(5)...) {
		if impl.IsMinimalDep(table, mode, d) {
			t.Fatalf("IsMinimalDep(%v, %d, %v) = true", table, mode, d)
		}
	}
}

func TestCoversInvalid(t *testing.T) {
	tables := append(coverTables()[:20], manyRows(40, 5), levelTable(5, 1, null), repeatedRow(40, null))
	for columns := 1; columns <= 5; columns++ {
		tables = append(tables, tableOf(columns))
	}
	for _, table := range tables {
		for _, mode := range badModes {
			checkNoCover(t, table, mode)
		}
	}
	for _, bad := range invalidTables {
		for mode := -1; mode <= 2; mode++ {
			checkNoCover(t, bad, mode)
		}
	}
}

// TestCoversOfUnusedCapacity has a row behind the end of the list, within its capacity.
func TestCoversOfUnusedCapacity(t *testing.T) {
	rows := [][]int{{1, 1}, {2, 1}, {2, 1}}
	for _, mode := range modes {
		checkCover(t, impl.Table{Columns: 2, Rows: rows[:2]}, mode, "none>B")
		checkKeys(t, impl.Table{Columns: 2, Rows: rows[:2]}, mode, []int{1})
		checkKeys(t, impl.Table{Columns: 2, Rows: rows}, mode, nil)
		checkBorder(t, impl.Table{Columns: 2, Rows: rows[:1]}, mode, 0, nil)
	}
}

// TestCoversEveryTime makes the same calls many times.
func TestCoversEveryTime(t *testing.T) {
	for range 1000 {
		for _, mode := range modes {
			checkCover(t, crossed, mode, "C>A BD>A C>B AD>B AB>C AD>C BD>C C>D AB>D")
			checkKeys(t, crossed, mode, []int{3, 4, 9, 10})
			checkBorder(t, crossed, mode, 2, []int{1, 2, 8})
			if got := textOfCover(impl.ApproximateDeps(people, mode, 1)); got != "C>A none>B A>C B>C none>D" {
				t.Fatalf("ApproximateDeps(%v, %d, 1) = %q", people, mode, got)
			}
		}
	}
	large := levelTable(5, 2, null)
	for range 50 {
		checkLevel(t, large, impl.NullsEqual, 2)
		checkLevel(t, large, impl.NullsApart, 0)
	}
}

// spoilDeps overwrites everything that a list of dependencies gives access to.
func spoilDeps(l []impl.Dep) {
	l = l[:cap(l)]
	for i := range l {
		l[i] = impl.Dep{Left: -99, Right: -99}
	}
}

// TestCoverTablesStay compares tables, with their unused capacity, before and after the calls, and after their results were overwritten.
func TestCoverTablesStay(t *testing.T) {
	for _, table := range append(coverTables(), invalidTables...) {
		a := spareTable(table)
		before := wholeTable(a)
		for mode := -1; mode <= 2; mode++ {
			spoilDeps(impl.MinimalDeps(a, mode))
			spoilRow(impl.MinimalKeys(a, mode))
			for _, rows := range []int{-1, 0, 1, 40} {
				spoilDeps(impl.ApproximateDeps(a, mode, rows))
			}
			for right := -1; right <= 5; right++ {
				spoilRow(impl.ViolatedBorder(a, mode, right))
			}
			for set := -1; set <= 32; set++ {
				impl.IsUnique(a, mode, set)
				impl.IsMinimalDep(a, mode, impl.Dep{Left: set, Right: 0})
				impl.IsMinimalDep(a, mode, impl.Dep{Left: set, Right: 3})
			}
		}
		if after := wholeTable(a); after != before {
			t.Fatalf("%s became %s", before, after)
		}
	}
}

// checkNewMemory clears one result and looks at an earlier and at the next one.
func checkNewMemory[E comparable](t *testing.T, call func() []E) {
	t.Helper()
	earlier, first := call(), call()
	want := slices.Clone(first)
	clear(first[:cap(first)])
	if next := call(); !slices.Equal(earlier, want) || !slices.Equal(next, want) {
		t.Errorf("%v and %v after a change of another result, want %v", earlier, next, want)
	}
}

func TestCoverResultsAreNewMemory(t *testing.T) {
	for _, mode := range modes {
		checkNewMemory(t, func() []impl.Dep { return impl.MinimalDeps(crossed, mode) })
		checkNewMemory(t, func() []impl.Dep { return impl.ApproximateDeps(crossed, mode, 1) })
		checkNewMemory(t, func() []int { return impl.ViolatedBorder(crossed, mode, 2) })
		checkNewMemory(t, func() []int { return impl.MinimalKeys(crossed, mode) })
	}
}
