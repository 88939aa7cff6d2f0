package tests

import (
	"math/rand"
	"slices"
	"testing"

	"loop.example/g01988/impl"
)

// Promises 8 and 7: in an example table exactly the implied dependencies hold, and for each dependency that is not implied there is a counterexample: a table in which all given ones hold, but this one does not.

// slowArmstrong has a row of zeros, and the rows for the closed sets, tried one by one.
func slowArmstrong(n int, l []impl.Dep) impl.Table {
	table := tableOf(n, make([]int, n))
	for index, set := range slowClosedSets(n, l) {
		if set < 1<<n-1 {
			table.Rows = append(table.Rows, rowOfSet(n, set, 0, index+1))
		}
	}
	return table
}

// slowSatisfied compares the rows, for a valid table, mode and list.
func slowSatisfied(table impl.Table, mode int, l []impl.Dep) bool {
	return !slices.ContainsFunc(l, func(d impl.Dep) bool {
		_, _, violated := slowWitness(table, mode, d)
		return violated
	})
}

// slowAgreeing reads the meaning of agree sets: no rows agree in Left but not in Right.
func slowAgreeing(agree []int) func(d impl.Dep) bool {
	return func(d impl.Dep) bool {
		return !slices.ContainsFunc(agree, func(set int) bool {
			return d.Left&set == d.Left && !hasColumn(set, d.Right)
		})
	}
}

func checkExample(t *testing.T, n int, l []impl.Dep, want impl.Table) {
	t.Helper()
	if got, ok := impl.ArmstrongTable(n, l); !ok || !sameTable(got, want) {
		t.Fatalf("ArmstrongTable(%d, %v) = %v, %v, want %v", n, l, got, ok, want)
	}
}

func checkNoExample(t *testing.T, n int, l []impl.Dep) {
	t.Helper()
	if got, ok := impl.ArmstrongTable(n, l); ok || !isZeroTable(got) {
		t.Fatalf("ArmstrongTable(%d, %v) = %v, %v, want nothing and false", n, l, got, ok)
	}
}

func checkCounter(t *testing.T, n int, l []impl.Dep, d impl.Dep, want impl.Table) {
	t.Helper()
	if got, ok := impl.CounterTable(n, l, d); !ok || !sameTable(got, want) {
		t.Fatalf("CounterTable(%d, %v, %v) = %v, %v, want %v", n, l, d, got, ok, want)
	}
}

func checkNoCounter(t *testing.T, n int, l []impl.Dep, d impl.Dep) {
	t.Helper()
	if got, ok := impl.CounterTable(n, l, d); ok || !isZeroTable(got) {
		t.Fatalf("CounterTable(%d, %v, %v) = %v, %v, want nothing and false", n, l, d, got, ok)
	}
}

func checkSatisfied(t *testing.T, table impl.Table, mode int, l []impl.Dep, want bool) {
	t.Helper()
	if got := impl.SatisfiesAll(table, mode, l); got != want {
		t.Fatalf("SatisfiesAll(%v, %d, %v) = %v, want %v", table, mode, l, got, want)
	}
}

func checkAgreeing(t *testing.T, n int, agree []int, want []impl.Dep) {
	t.Helper()
	if got := impl.DepsOfAgreeSets(n, agree); !slices.Equal(got, want) {
		t.Fatalf("DepsOfAgreeSets(%d, %v) = %v, want %v", n, agree, got, want)
	}
}

// checkArmstrong expects a table in which exactly the implied dependencies hold, for a valid list.
func checkArmstrong(t *testing.T, n int, l []impl.Dep) {
	t.Helper()
	table := slowArmstrong(n, l)
	checkExample(t, n, l, table)
	if !impl.IsTable(table) {
		t.Fatalf("the example %v of %v is no table", table, l)
	}
	for _, mode := range modes {
		for _, d := range depsOf(n) {
			implied := impl.ImpliesDep(n, l, d)
			if implied != slowImplied(n, l, d) || impl.HoldsDep(table, mode, d) != implied {
				t.Fatalf("%v is implied by %v: %v, but not so in the example %v in mode %d", d, l, implied, table, mode)
			}
		}
		checkSatisfied(t, table, mode, l, true)
	}
}

// checkSideBySide expects either a derivation or a counterexample, for a valid list and a valid d.
func checkSideBySide(t *testing.T, n int, l []impl.Dep, d impl.Dep) {
	t.Helper()
	_, derived := impl.DeriveDep(n, l, d)
	table, against := impl.CounterTable(n, l, d)
	if derived == against || derived != slowImplied(n, l, d) {
		t.Fatalf("%v from %v has a derivation: %v, and a counterexample: %v", d, l, derived, against)
	}
	if !against {
		checkNoCounter(t, n, l, d)
		return
	}
	checkCounter(t, n, l, d, tableOf(n, make([]int, n), rowOfSet(n, slowClosure(n, l, d.Left), 0, 1)))
	if !impl.IsTable(table) {
		t.Fatalf("the counterexample %v is no table", table)
	}
	for _, mode := range modes {
		checkSatisfied(t, table, mode, l, true)
		checkSatisfied(t, table, mode, []impl.Dep{d}, false)
		if impl.HoldsDep(table, mode, d) || !slowSatisfied(table, mode, l) {
			t.Fatalf("the table %v is no counterexample for %v from %v", table, d, l)
		}
	}
}

// checkTables checks the example and all counterexamples of a valid list.
func checkTables(t *testing.T, n int, l []impl.Dep) {
	t.Helper()
	checkArmstrong(t, n, l)
	for _, d := range depsOf(n) {
		checkSideBySide(t, n, l, d)
	}
}

// checkNoTables expects the results for lists that are not valid.
func checkNoTables(t *testing.T, n int, l []impl.Dep) {
	t.Helper()
	checkNoExample(t, n, l)
	for _, d := range []impl.Dep{{}, {Left: 1}, {Left: 1, Right: 1}, {Left: 2}, {Left: 15, Right: 4}, {Right: 4}, {Left: -1, Right: -1}, {Left: 96, Right: 7}} {
		checkNoCounter(t, n, l, d)
	}
}

func TestTablesOfFewDeps(t *testing.T) {
	checkFewDeps(t, checkTables)
}

func TestTablesOfManyDeps(t *testing.T) {
	checkManyDeps(t, 27, checkTables)
}

// TestTablesOfNoDeps has dependencies that are not valid at every place of a list, too many, and no number of columns.
func TestTablesOfNoDeps(t *testing.T) {
	checkBadDeps(t, checkNoTables)
	checkTables(t, 4, depsIn("A>B AB>C D>A"))
}

func TestArmstrongTable(t *testing.T) {
	cases := []struct {
		n          int
		deps, text string
	}{
		{3, "A>B B>C", "ABC\n0 0 0\n1 1 1\n2 2 0\n3 0 0\n"},
		{3, "B>C A>B A>C", "ABC\n0 0 0\n1 1 1\n2 2 0\n3 0 0\n"},
		{3, "AB>C", "ABC\n0 0 0\n1 1 1\n0 2 2\n3 0 3\n4 4 0\n0 5 0\n6 0 0\n"},
		{2, "A>B", "AB\n0 0\n1 1\n2 0\n"},
		{2, "B>A", "AB\n0 0\n1 1\n0 2\n"},
		{2, "A>B B>A", "AB\n0 0\n1 1\n"},
		// what implies itself says nothing
		{1, "A>A", "A\n0\n1\n"},
		{2, "AB>A B>B", "AB\n0 0\n1 1\n0 2\n3 0\n"},
		// the empty set is not closed: the index counts the closed sets alone
		{2, "none>A", "AB\n0 0\n0 1\n"},
		{2, "none>B", "AB\n0 0\n1 0\n"},
		{3, "none>B", "ABC\n0 0 0\n1 0 1\n0 0 2\n3 0 0\n"},
		// one closed set
		{1, "none>A", "A\n0\n"},
		{2, "none>A none>B", "AB\n0 0\n"},
		{3, "none>A A>B B>C", "ABC\n0 0 0\n"},
		{5, "none>E E>A AE>B B>C C>D", "ABCDE\n0 0 0 0 0\n"},
		// no dependencies
		{1, "", "A\n0\n1\n"},
		{2, "", "AB\n0 0\n1 1\n0 2\n3 0\n"},
		{3, "", "ABC\n0 0 0\n1 1 1\n0 2 2\n3 0 3\n0 0 4\n5 5 0\n0 6 0\n7 0 0\n"},
	}
	for _, c := range cases {
		got, ok := impl.ArmstrongTable(c.n, depsIn(c.deps))
		if text := impl.FormatTable(got); !ok || text != c.text {
			t.Errorf("ArmstrongTable(%d, %s) = %q, %v, want %q", c.n, c.deps, text, ok, c.text)
		}
		checkTables(t, c.n, depsIn(c.deps))
	}
}

// TestArmstrongTableOfEmptyList has a row for every set but that of all columns.
func TestArmstrongTableOfEmptyList(t *testing.T) {
	for n := -1; n <= impl.MaxColumns+1; n++ {
		for _, l := range [][]impl.Dep{nil, {}, depsIn("A>B B>C")[:0]} {
			if n < 1 || n > 5 {
				checkNoTables(t, n, l)
				continue
			}
			table := tableOf(n, make([]int, n))
			for set := range 1<<n - 1 {
				table.Rows = append(table.Rows, rowOfSet(n, set, 0, set+1))
			}
			checkExample(t, n, l, table)
			checkTables(t, n, l)
		}
	}
}

// TestTablesOfAsManyDeps has as many dependencies as there may be, and one more.
func TestTablesOfAsManyDeps(t *testing.T) {
	for _, d := range depsIn("A>B none>E ABCD>E ABC>C") {
		full := slices.Repeat([]impl.Dep{d}, impl.MaxDeps)
		checkExample(t, 5, full, slowArmstrong(5, []impl.Dep{d}))
		checkTables(t, 5, full)
		checkNoTables(t, 5, append(full, d))
	}
}

// TestArmstrongTableIsRead reads the dependencies and the keys of an example.
func TestArmstrongTableIsRead(t *testing.T) {
	for _, l := range meaningLists() {
		table, _ := impl.ArmstrongTable(5, l)
		for _, mode := range modes {
			within := impl.ProjectDeps(5, l, 31)
			checkSameFound(t, table, mode)
			checkFound(t, table, mode, textOfCover(within), impl.KeysOf(5, l))
			checkAgreeing(t, 5, impl.AgreeSets(table, mode), within)
			checkAgreeing(t, 5, impl.ClosedSets(5, l), within)
		}
	}
}

func TestCounterTable(t *testing.T) {
	cases := []struct {
		n             int
		deps, d, text string
	}{
		{3, "A>B B>C", "B>A", "ABC\n0 0 0\n1 0 0\n"},
		{3, "A>B B>C", "BC>A", "ABC\n0 0 0\n1 0 0\n"},
		{3, "A>B B>C", "C>A", "ABC\n0 0 0\n1 1 0\n"},
		{3, "A>B B>C", "none>A", "ABC\n0 0 0\n1 1 1\n"},
		{3, "A>B B>C", "none>C", "ABC\n0 0 0\n1 1 1\n"},
		{3, "B>C A>B", "C>B", "ABC\n0 0 0\n1 1 0\n"},
		{3, "none>B", "A>C", "ABC\n0 0 0\n0 0 1\n"},
		{3, "none>B", "none>C", "ABC\n0 0 0\n1 0 1\n"},
		{3, "", "AB>C", "ABC\n0 0 0\n0 0 1\n"},
		{5, "D>E C>D B>C", "C>A", "ABCDE\n0 0 0 0 0\n1 1 0 0 0\n"},
		{5, "", "ABCD>E", "ABCDE\n0 0 0 0 0\n0 0 0 0 1\n"},
		{5, "", "BCDE>A", "ABCDE\n0 0 0 0 0\n1 0 0 0 0\n"},
		{1, "", "none>A", "A\n0\n1\n"},
		// implied
		{3, "A>B B>C", "A>C", ""},
		{3, "A>B B>C", "AC>B", ""},
		{3, "B>C A>B", "A>C", ""},
		{3, "none>B", "none>B", ""},
		{3, "none>A A>C", "B>C", ""},
		// Right is in Left
		{3, "A>B B>C", "A>A", ""},
		{3, "", "ABC>B", ""},
		{1, "", "A>A", ""},
		{1, "none>A", "A>A", ""},
	}
	for _, c := range cases {
		got, ok := impl.CounterTable(c.n, depsIn(c.deps), depsIn(c.d)[0])
		if text := impl.FormatTable(got); ok != (c.text != "") || text != c.text || !ok && !isZeroTable(got) {
			t.Errorf("CounterTable(%d, %s, %s) = %v, %v, want %q", c.n, c.deps, c.d, got, ok, c.text)
		}
		checkSideBySide(t, c.n, depsIn(c.deps), depsIn(c.d)[0])
	}
}

// TestCounterTableOfNoDep has dependencies that are not valid after valid lists.
func TestCounterTableOfNoDep(t *testing.T) {
	for n := 1; n <= impl.MaxColumns; n++ {
		for _, l := range [][]impl.Dep{nil, {}, {{}}, {{Left: 1}}, make([]impl.Dep, impl.MaxDeps)} {
			for _, bad := range badDepsOf(n) {
				checkNoCounter(t, n, l, bad)
			}
			for _, d := range depsOf(5) {
				if d.Left >= 1<<n || d.Right >= n {
					checkNoCounter(t, n, l, d)
				} else {
					checkSideBySide(t, n, l, d)
				}
			}
		}
	}
}

func TestSatisfiesAll(t *testing.T) {
	nullLeft, nullRight := tableOf(2, []int{null, 0}, []int{null, 1}), tableOf(2, []int{0, null}, []int{0, null})
	mixed := tableOf(3, []int{0, null, 0}, []int{0, null, 0}, []int{1, 2, 0}, []int{null, 2, 0})
	cases := []struct {
		table       impl.Table
		deps        string
		equal, away bool
	}{
		{people, "A>B A>C A>D C>B B>D none>D", true, true},
		{people, "", true, true},
		{people, "B>C", false, false},
		{people, "A>B A>C B>C", false, false},
		{people, "B>C A>B A>C", false, false},
		{people, "A>B B>C A>C", false, false},
		{people, "B>C B>C", false, false},
		{people, "C>A B>A", false, false},
		{people, "A>A B>B BC>C", true, true},
		// nulls
		{nullLeft, "A>B", false, true},
		{nullLeft, "B>A", true, true},
		{nullLeft, "none>A", true, false},
		{nullLeft, "A>A", true, true},
		{nullLeft, "A>B B>A", false, true},
		{nullLeft, "A>B none>A", false, false},
		{nullRight, "A>B", true, false},
		{nullRight, "B>A", true, true},
		{nullRight, "A>B B>A", true, false},
		{nullRight, "B>A A>B", true, false},
		{mixed, "A>B none>C", true, false},
		{mixed, "B>A none>C", false, false},
		{mixed, "A>C B>C", true, true},
		{mixed, "A>A B>B", true, true},
	}
	for _, c := range cases {
		checkSatisfied(t, c.table, impl.NullsEqual, depsIn(c.deps), c.equal)
		checkSatisfied(t, c.table, impl.NullsApart, depsIn(c.deps), c.away)
		for _, mode := range badModes {
			checkSatisfied(t, c.table, mode, depsIn(c.deps), false)
		}
	}
}

// TestSatisfiesAllInTables has all dependencies that hold in a table, with one that does not or is not valid at every place, and others.
func TestSatisfiesAllInTables(t *testing.T) {
	r := rand.New(rand.NewSource(28))
	for _, table := range someTables() {
		for _, mode := range modes {
			var holding, failing []impl.Dep
			for _, d := range depsOf(table.Columns) {
				if impl.HoldsDep(table, mode, d) {
					holding = append(holding, d)
				} else {
					failing = append(failing, d)
				}
				checkSatisfied(t, table, mode, []impl.Dep{d}, slowSatisfied(table, mode, []impl.Dep{d}))
			}
			checkSatisfied(t, table, mode, holding, true)
			checkSatisfied(t, table, mode, failing, len(failing) == 0)
			bad := []impl.Dep{{Left: -1}, {Right: -1}, {Right: table.Columns}, {Left: 1 << table.Columns}}
			if len(failing) > 0 {
				bad = append(bad, failing[0], failing[r.Intn(len(failing))])
			}
			few := holding[:min(len(holding), 5)]
			for _, d := range bad {
				for place := range len(few) + 1 {
					checkSatisfied(t, table, mode, slices.Insert(slices.Clone(few), place, d), false)
				}
				checkSatisfied(t, table, mode, append(holding, d), false)
			}
			for range 20 {
				l := longDeps(r, table.Columns, r.Intn(4))
				checkSatisfied(t, table, mode, l, allHold(table, mode, l))
				checkSatisfied(t, table, mode, l, slowSatisfied(table, mode, l))
			}
		}
	}
}

// TestSatisfiesAllInTinyTables has all lists of two dependencies in all tables of two columns and few rows.
func TestSatisfiesAllInTinyTables(t *testing.T) {
	lists := shortDeps(2, 2)
	for _, table := range tinyTables() {
		for _, mode := range modes {
			for _, l := range lists {
				checkSatisfied(t, table, mode, l, slowSatisfied(table, mode, l))
			}
		}
	}
}

// TestSatisfiesAllOfNoTable has tables, modes and dependencies that are not valid.
func TestSatisfiesAllOfNoTable(t *testing.T) {
	for _, table := range invalidTables {
		for mode := -1; mode <= 2; mode++ {
			for _, l := range [][]impl.Dep{nil, {}, {{}}, {{Left: 1}}, {{Left: 1}, {}}, {{Left: -1, Right: -1}}} {
				checkSatisfied(t, table, mode, l, false)
			}
		}
	}
	for _, table := range append(coverTables(), tableOf(1), tableOf(5)) {
		holding := impl.Dep{Left: 1}
		for _, mode := range modes {
			checkSatisfied(t, table, mode, nil, true)
			checkSatisfied(t, table, mode, []impl.Dep{}, true)
			for _, bad := range badDepsOf(table.Columns) {
				for _, l := range [][]impl.Dep{{bad}, {holding, bad}, {bad, holding}, {bad, bad}} {
					checkSatisfied(t, table, mode, l, false)
				}
			}
		}
		for _, mode := range badModes {
			checkSatisfied(t, table, mode, nil, false)
			checkSatisfied(t, table, mode, []impl.Dep{}, false)
			checkSatisfied(t, table, mode, []impl.Dep{holding}, false)
		}
	}
}

// TestSatisfiesAllWithoutRows expects that every dependency holds where there are no two rows.
func TestSatisfiesAllWithoutRows(t *testing.T) {
	for n := 1; n <= impl.MaxColumns; n++ {
		for _, mode := range modes {
			checkSatisfied(t, tableOf(n), mode, depsOf(n), true)
			checkSatisfied(t, tableOf(n, slices.Repeat([]int{null}, n)), mode, depsOf(n), true)
			checkSatisfied(t, tableOf(n), mode, append(depsOf(n), impl.Dep{Right: n}), false)
		}
	}
}

// TestSatisfiesAllOfAnyLength has more dependencies than a list for a closure may have.
func TestSatisfiesAllOfAnyLength(t *testing.T) {
	for _, length := range []int{impl.MaxDeps - 1, impl.MaxDeps, impl.MaxDeps + 1, 2 * impl.MaxDeps, 1000} {
		for _, mode := range modes {
			l := slices.Repeat(depsIn("A>B"), length)
			checkSatisfied(t, people, mode, l, true)
			checkSatisfied(t, people, mode, append(l, depsIn("B>A")...), false)
			checkSatisfied(t, people, mode, slices.Insert(l, 0, depsIn("B>A")...), false)
			checkSatisfied(t, people, mode, append(l, impl.Dep{Right: 4}), false)
		}
	}
}

func TestDepsOfAgreeSets(t *testing.T) {
	cases := []struct {
		n     int
		agree []int
		want  string
	}{
		{3, []int{0, 4, 6}, "A>B A>C B>C"},
		{3, []int{6, 0, 4}, "A>B A>C B>C"},
		{3, []int{6, 4, 0, 4, 4, 6, 0}, "A>B A>C B>C"},
		{3, []int{7, 6, 4, 0}, "A>B A>C B>C"},
		{3, []int{1, 2, 4}, "BC>A AC>B AB>C"},
		{3, []int{0, 1, 2, 4}, "BC>A AC>B AB>C"},
		{3, []int{3, 5, 6}, ""},
		{3, []int{3}, "none>A none>B"},
		{3, []int{0}, "B>A C>A A>B C>B A>C B>C"},
		{4, []int{5, 10}, "C>A D>B A>C B>D"},
		{4, []int{1, 6}, "D>A C>B D>B B>C D>C AB>D AC>D"},
		{5, []int{15}, "none>A none>B none>C none>D"},
		{5, []int{15, 30}, "none>B none>C none>D"},
		{2, []int{0}, "B>A A>B"},
		{2, []int{0, 1}, "B>A"},
		{2, []int{1}, "none>A"},
		{2, []int{2}, "none>B"},
		{2, []int{1, 2}, ""},
		{1, []int{0}, ""},
		{1, []int{0, 1}, ""},
		// no agree sets, or that of equal rows alone: the empty set determines every column
		{1, nil, "none>A"},
		{1, []int{}, "none>A"},
		{1, []int{1}, "none>A"},
		{2, nil, "none>A none>B"},
		{2, []int{3, 3}, "none>A none>B"},
		{3, []int{7}, "none>A none>B none>C"},
		{5, nil, "none>A none>B none>C none>D none>E"},
		{5, []int{31}, "none>A none>B none>C none>D none>E"},
	}
	for _, c := range cases {
		if got := textOfCover(impl.DepsOfAgreeSets(c.n, c.agree)); got != c.want {
			t.Errorf("DepsOfAgreeSets(%d, %v) = %s, want %s", c.n, c.agree, got, c.want)
		}
	}
}

// TestDepsOfAgreeSetsOfTables reads the dependencies of a table from its agree sets.
func TestDepsOfAgreeSetsOfTables(t *testing.T) {
	r := rand.New(rand.NewSource(29))
	tables := append(agreeTables(), searchTables()...)
	tables = append(tables, people, crossed, apartPairs, agreeTable, everySetTable())
	for _, table := range append(tables, tinyTables()...) {
		for _, mode := range modes {
			want, agree := impl.MinimalDeps(table, mode), impl.AgreeSets(table, mode)
			checkAgreeing(t, table.Columns, agree, want)
			again := append(slices.Clone(agree), agree...)
			again = append(again, 1<<table.Columns-1)
			r.Shuffle(len(again), func(i, k int) { again[i], again[k] = again[k], again[i] })
			checkAgreeing(t, table.Columns, again, want)
		}
	}
}

// TestDepsOfFewAgreeSets has all lists of few sets.
func TestDepsOfFewAgreeSets(t *testing.T) {
	for n, length := range []int{0, 4, 4, 3, 2, 2} {
		if n == 0 {
			continue
		}
		for _, agree := range shortLists(n, length) {
			checkAgreeing(t, n, agree, slowCover(n, slowAgreeing(agree)))
		}
	}
}

// TestDepsOfManyAgreeSets has lists of any length, also longer than those of which MaximalSets are asked for.
func TestDepsOfManyAgreeSets(t *testing.T) {
	r := rand.New(rand.NewSource(30))
	for length := range 40 {
		for range 10 {
			n := 3 + r.Intn(3)
			agree := longList(r, n, length)
			checkAgreeing(t, n, agree, slowCover(n, slowAgreeing(agree)))
		}
	}
	for _, length := range []int{99, 100, 101, 200, 1000} {
		checkAgreeing(t, 3, append(slices.Repeat([]int{4}, length), 6, 0), depsIn("A>B A>C B>C"))
		checkAgreeing(t, 2, slices.Repeat([]int{3}, length), depsIn("none>A none>B"))
		checkAgreeing(t, 2, append(slices.Repeat([]int{3}, length), 4), nil)
	}
}

// TestDepsOfNoAgreeSets has sets that are not valid at every place of a list, and no number of columns.
func TestDepsOfNoAgreeSets(t *testing.T) {
	for n := 1; n <= impl.MaxColumns; n++ {
		for _, bad := range farSets(n) {
			checkAgreeing(t, n, []int{bad}, nil)
			checkAgreeing(t, n, []int{bad, bad}, nil)
			for place := range 4 {
				checkAgreeing(t, n, slices.Insert([]int{0, 1<<n - 1, 1}, place, bad), nil)
			}
		}
		for set := range 1 << n {
			checkAgreeing(t, n, []int{set}, slowCover(n, slowAgreeing([]int{set})))
		}
	}
	for _, n := range append([]int{-1, 0, 6}, badColumnCounts...) {
		for _, agree := range [][]int{nil, {}, {0}, {1}, {0, 0}, {31}, {-1}, {63}} {
			checkAgreeing(t, n, agree, nil)
		}
	}
	for n := -1; n <= impl.MaxColumns+1; n++ {
		var want []impl.Dep
		for right := 0; right < n && n <= 5; right++ {
			want = append(want, impl.Dep{Right: right})
		}
		checkAgreeing(t, n, nil, want)
	}
}

// TestExampleArgumentsStay compares lists and tables, with their unused capacity, before and after the calls, and after their results were overwritten.
func TestExampleArgumentsStay(t *testing.T) {
	lists := append(meaningLists(), badLists(5)...)
	for _, l := range append(lists, badLists(3)...) {
		a := spareDeps(l)
		before := slices.Clone(a[:cap(a)])
		for n := -1; n <= 6; n++ {
			table, _ := impl.ArmstrongTable(n, a)
			spoilRows(table.Rows)
			for left := -1; left <= 32; left += 3 {
				for right := -1; right <= 5; right++ {
					table, _ := impl.CounterTable(n, a, impl.Dep{Left: left, Right: right})
					spoilRows(table.Rows)
				}
			}
			impl.SatisfiesAll(people, impl.NullsEqual, a)
		}
		if !slices.Equal(a[:cap(a)], before) {
			t.Fatalf("%v became %v", before, a[:cap(a)])
		}
	}
	for _, table := range append(coverTables(), invalidTables...) {
		a := spareTable(table)
		before := wholeTable(a)
		for mode := -1; mode <= 2; mode++ {
			impl.SatisfiesAll(a, mode, nil)
			impl.SatisfiesAll(a, mode, depsIn("A>A none>A A>B"))
		}
		if after := wholeTable(a); after != before {
			t.Fatalf("%s became %s", before, after)
		}
	}
	for _, agree := range [][]int{nil, {0, 4, 6}, {6, 4, 0, 6}, {31, 0, 31}, {1, 2, 4, 8, 16}, {-1, 3}, {3, 32}} {
		a := spareRow(agree)
		before := slices.Clone(a[:cap(a)])
		for n := -1; n <= 6; n++ {
			spoilDeps(impl.DepsOfAgreeSets(n, a))
		}
		if !slices.Equal(a[:cap(a)], before) {
			t.Fatalf("%v became %v", before, a[:cap(a)])
		}
	}
}

// TestExamplesOfUnusedCapacity has dependencies, rows and sets behind the end of the list, within its capacity.
func TestExamplesOfUnusedCapacity(t *testing.T) {
	l := depsIn("A>B B>C C>A")
	checkExample(t, 3, l[:2], slowArmstrong(3, depsIn("A>B B>C")))
	checkExample(t, 3, l, tableOf(3, []int{0, 0, 0}, []int{1, 1, 1}))
	checkCounter(t, 3, l[:1], depsIn("A>C")[0], tableOf(3, []int{0, 0, 0}, []int{0, 0, 1}))
	checkNoCounter(t, 3, l[:2], depsIn("A>C")[0])
	checkSatisfied(t, people, impl.NullsEqual, depsIn("A>B B>C")[:1], true)
	rows := impl.Table{Columns: people.Columns, Rows: people.Rows[:1]}
	checkSatisfied(t, rows, impl.NullsEqual, depsIn("B>C"), true)
	agree := []int{1, 2, 32}
	checkAgreeing(t, 2, agree[:1], depsIn("none>A"))
	checkAgreeing(t, 2, agree[:2], nil)
	checkAgreeing(t, 2, agree[:0], depsIn("none>A none>B"))
}

// checkNewTable expects a table of which no two rows share memory, and that its change changes no other result.
func checkNewTable(t *testing.T, call func() impl.Table) {
	t.Helper()
	earlier, first := call(), call()
	want := impl.Table{Columns: first.Columns}
	for _, row := range first.Rows {
		want.Rows = append(want.Rows, slices.Clone(row))
	}
	checkOwnRows(t, first.Rows)
	spoilRows(first.Rows)
	if next := call(); !sameTable(earlier, want) || !sameTable(next, want) {
		t.Fatalf("%v and %v after a change of another result, want %v", earlier, next, want)
	}
}

// TestExamplesAreNewMemory changes one result before the next one, and an argument after the call.
func TestExamplesAreNewMemory(t *testing.T) {
	for _, l := range meaningLists() {
		checkNewTable(t, func() impl.Table {
			table, _ := impl.ArmstrongTable(5, l)
			return table
		})
		for _, d := range depsOf(5) {
			checkNewTable(t, func() impl.Table {
				table, _ := impl.CounterTable(5, l, d)
				return table
			})
		}
		a := spareDeps(l)
		d := impl.Dep{Left: 2, Right: 0}
		example, _ := impl.ArmstrongTable(5, a)
		counter, against := impl.CounterTable(5, a, d)
		spoilDeps(a)
		if !sameTable(example, slowArmstrong(5, l)) || against && !sameTable(counter, pairOf(5, slowClosure(5, l, 2))) {
			t.Fatalf("%v and %v after a change of the argument", example, counter)
		}
	}
	for _, agree := range [][]int{nil, {0, 4, 6}, {6, 4, 0, 6}, {1, 2, 4, 8, 16}} {
		checkNewMemory(t, func() []impl.Dep { return impl.DepsOfAgreeSets(5, agree) })
		a := spareRow(agree)
		found := impl.DepsOfAgreeSets(5, a)
		spoilRow(a)
		if !slices.Equal(found, slowCover(5, slowAgreeing(agree))) {
			t.Fatalf("%v after a change of the argument", found)
		}
	}
}

// TestExamplesEveryTime makes the same calls many times.
func TestExamplesEveryTime(t *testing.T) {
	l := depsIn("C>D A>B B>C none>E")
	example := tableOf(5, []int{0, 0, 0, 0, 0}, []int{1, 1, 1, 1, 0}, []int{2, 2, 2, 0, 0}, []int{3, 3, 0, 0, 0}, []int{4, 0, 0, 0, 0})
	for range 1000 {
		checkExample(t, 5, l, example)
		checkCounter(t, 5, l, depsIn("C>B")[0], pairOf(5, 28))
		checkNoCounter(t, 5, l, depsIn("A>D")[0])
		checkSatisfied(t, example, impl.NullsEqual, l, true)
		checkAgreeing(t, 5, []int{16, 24, 28, 30, 31}, depsIn("A>B A>C B>C A>D B>D C>D none>E"))
	}
}
