package tests

import (
	"math/rand"
	"slices"
	"testing"

	"loop.example/g01988/impl"
)

// Promise 7, for covers: a cover of a list implies the same as the list, and neither a dependency nor a column of a left side can be spared. Keys and the dependencies within a set are the smallest sets whose closures reach far enough.

// slowClosures has the closure of each set. A dependency is implied if its Right is in that of its Left.
func slowClosures(n int, l []impl.Dep) []int {
	var closures []int
	for set := range 1 << n {
		closures = append(closures, slowClosure(n, l, set))
	}
	return closures
}

func isIn(closures []int, d impl.Dep) bool {
	return hasColumn(closures[d.Left], d.Right)
}

// firstOutside has more of the first columns outside the set than others with a smaller number.
func firstOutside(set int) int {
	number := 0
	for column := range 5 {
		number = 2*number + set>>column&1
	}
	return number
}

// slowReduced tries all parts of Left: of those that determine Right, it takes the one without A if there is one, of these the one without B, and so on.
func slowReduced(closures []int, d impl.Dep) impl.Dep {
	best := d
	for part := range d.Left {
		smaller := impl.Dep{Left: part, Right: d.Right}
		if part&d.Left == part && isIn(closures, smaller) && firstOutside(part) < firstOutside(best.Left) {
			best = smaller
		}
	}
	return best
}

// slowCoverOf marks what is gone.
func slowCoverOf(n int, l []impl.Dep) []impl.Dep {
	closures := slowClosures(n, l)
	var all []impl.Dep
	for _, d := range l {
		if r := slowReduced(closures, d); !slices.Contains(all, r) {
			all = append(all, r)
		}
	}
	gone := make([]bool, len(all))
	staying := func() []impl.Dep {
		var left []impl.Dep
		for i, d := range all {
			if !gone[i] {
				left = append(left, d)
			}
		}
		return left
	}
	for i, d := range all {
		gone[i] = true
		gone[i] = slowImplied(n, staying(), d)
	}
	return staying()
}

// slowIsCover leaves out each dependency, and each column on the left.
func slowIsCover(n int, l []impl.Dep) bool {
	closures := slowClosures(n, l)
	for i, d := range l {
		if slowImplied(n, slices.Delete(slices.Clone(l), i, i+1), d) {
			return false
		}
		for column := range n {
			if hasColumn(d.Left, column) && isIn(closures, impl.Dep{Left: d.Left - 1<<column, Right: d.Right}) {
				return false
			}
		}
	}
	return true
}

func slowKeys(n int, l []impl.Dep) []int {
	var all []int
	for set := range 1 << n {
		if impl.ClosureOf(n, l, set) == 1<<n-1 {
			all = append(all, set)
		}
	}
	return slowMinimal(all)
}

// columnsOf are the columns of all sets of a list.
func columnsOf(l []int) int {
	columns := 0
	for _, set := range l {
		columns |= set
	}
	return columns
}

func slowProjected(n int, closures []int, set int) []impl.Dep {
	return slowCover(n, func(d impl.Dep) bool {
		return d.Left&set == d.Left && hasColumn(set, d.Right) && isIn(closures, d)
	})
}

func checkCoverOf(t *testing.T, n int, l, want []impl.Dep) {
	t.Helper()
	if got := impl.CoverOf(n, l); !slices.Equal(got, want) {
		t.Fatalf("CoverOf(%d, %v) = %v, want %v", n, l, got, want)
	}
}

func checkIsCover(t *testing.T, n int, l []impl.Dep, want bool) {
	t.Helper()
	if got := impl.IsCover(n, l); got != want {
		t.Fatalf("IsCover(%d, %v) = %v, want %v", n, l, got, want)
	}
}

func checkLeft(t *testing.T, n int, l []impl.Dep, d, want impl.Dep) {
	t.Helper()
	if got := impl.ReduceLeft(n, l, d); got != want {
		t.Fatalf("ReduceLeft(%d, %v, %v) = %v, want %v", n, l, d, got, want)
	}
}

// checkKeysOf expects these keys, and their columns.
func checkKeysOf(t *testing.T, n int, l []impl.Dep, want []int) {
	t.Helper()
	if got := impl.KeysOf(n, l); !slices.Equal(got, want) {
		t.Fatalf("KeysOf(%d, %v) = %v, want %v", n, l, got, want)
	}
	if got := impl.PrimeColumns(n, l); got != columnsOf(want) {
		t.Fatalf("PrimeColumns(%d, %v) = %d, want %d", n, l, got, columnsOf(want))
	}
}

func checkProjected(t *testing.T, n int, l []impl.Dep, set int, want []impl.Dep) {
	t.Helper()
	if got := impl.ProjectDeps(n, l, set); !slices.Equal(got, want) {
		t.Fatalf("ProjectDeps(%d, %v, %d) = %v, want %v", n, l, set, got, want)
	}
}

// checkReducedList expects of the cover of a valid list that it is the one the order leads to, means the same, and can spare nothing.
func checkReducedList(t *testing.T, n int, l []impl.Dep) {
	t.Helper()
	cover := slowCoverOf(n, l)
	checkCoverOf(t, n, l, cover)
	checkCoverOf(t, n, cover, cover)
	checkIsCover(t, n, cover, true)
	checkIsCover(t, n, l, slowIsCover(n, l))
	checkSameMeaning(t, n, l, cover, true)
	if !slowIsCover(n, cover) || !slices.Equal(slowClosedSets(n, l), slowClosedSets(n, cover)) {
		t.Fatalf("%v is no cover of %v", cover, l)
	}
}

// checkReduced compares all functions with the sets tried one by one, for a valid list.
func checkReduced(t *testing.T, n int, l []impl.Dep) {
	t.Helper()
	checkReducedList(t, n, l)
	checkKeysOf(t, n, l, slowKeys(n, l))
	closures := slowClosures(n, l)
	for _, d := range depsOf(n) {
		want := d
		if isIn(closures, d) {
			want = slowReduced(closures, d)
		}
		checkLeft(t, n, l, d, want)
	}
	for set := -1; set <= 32; set++ {
		if set < 0 || set >= 1<<n {
			checkProjected(t, n, l, set, nil)
		} else {
			checkProjected(t, n, l, set, slowProjected(n, closures, set))
		}
	}
}

// checkNotReduced expects the results for lists that are not valid.
func checkNotReduced(t *testing.T, n int, l []impl.Dep) {
	t.Helper()
	checkCoverOf(t, n, l, nil)
	checkIsCover(t, n, l, false)
	checkKeysOf(t, n, l, nil)
	for set := -1; set <= 32; set++ {
		checkProjected(t, n, l, set, nil)
	}
	for _, d := range []impl.Dep{{}, {Left: 1}, {Left: 3}, {Left: 3, Right: 1}, {Left: 31, Right: 4}, {Left: -1, Right: -1}, {Left: 96, Right: 7}} {
		checkLeft(t, n, l, d, d)
	}
}

func TestReducedOfFewDeps(t *testing.T) {
	checkFewDeps(t, checkReduced)
}

func TestReducedOfManyDeps(t *testing.T) {
	checkManyDeps(t, 25, checkReduced)
}

// TestReducedOfAnyLeft has left sides of any size, equally often.
func TestReducedOfAnyLeft(t *testing.T) {
	r := rand.New(rand.NewSource(26))
	for range 500 {
		n := 3 + r.Intn(3)
		l := make([]impl.Dep, r.Intn(impl.MaxDeps+1))
		for i := range l {
			l[i] = impl.Dep{Left: r.Intn(1 << n), Right: r.Intn(n)}
		}
		checkReducedList(t, n, l)
		checkKeysOf(t, n, l, slowKeys(n, l))
	}
}

// TestReducedOfNoDeps has dependencies that are not valid at every place of a list, too many, and no number of columns.
func TestReducedOfNoDeps(t *testing.T) {
	checkBadDeps(t, checkNotReduced)
	checkReduced(t, 4, depsIn("A>B AB>C D>A"))
}

// TestReducedOfEmptyList has no dependencies: the set of all columns alone is a key.
func TestReducedOfEmptyList(t *testing.T) {
	for n := -1; n <= impl.MaxColumns+1; n++ {
		for _, l := range [][]impl.Dep{nil, {}, depsIn("A>B B>C")[:0]} {
			checkCoverOf(t, n, l, nil)
			checkIsCover(t, n, l, n >= 1 && n <= 5)
			if n >= 1 && n <= 5 {
				checkKeysOf(t, n, l, []int{1<<n - 1})
			} else {
				checkKeysOf(t, n, l, nil)
			}
			for set := -1; set <= 32; set++ {
				checkProjected(t, n, l, set, nil)
			}
		}
	}
}

func TestReduceLeft(t *testing.T) {
	cases := []struct {
		n             int
		deps, d, want string
	}{
		{3, "A>B B>C A>C AB>C", "AB>C", "B>C"},
		// more than one column could go: the first one goes
		{3, "A>C B>C", "AB>C", "B>C"},
		{3, "B>C A>C", "AB>C", "B>C"},
		{4, "A>D B>D C>D", "ABC>D", "C>D"},
		{4, "A>D B>D", "ABC>D", "B>D"},
		{4, "A>D C>D", "ABC>D", "C>D"},
		{3, "A>B B>A AB>C", "AB>C", "B>C"},
		{3, "C>B B>C BC>A", "BC>A", "C>A"},
		{4, "AB>D BC>D", "ABC>D", "BC>D"},
		{4, "AB>D AC>D", "ABC>D", "AC>D"},
		{4, "A>D BC>D", "ABC>D", "BC>D"},
		{4, "C>D AB>D", "ABC>D", "C>D"},
		{5, "AB>E CD>E", "ABCD>E", "CD>E"},
		{5, "AD>E BC>E", "ABCD>E", "BC>E"},
		{5, "AC>E BD>E D>E", "ABCD>E", "D>E"},
		// a column goes that another one determines
		{3, "A>B AB>C", "AB>C", "A>C"},
		{3, "B>A AB>C", "AB>C", "B>C"},
		{4, "A>B B>C ABC>D", "ABC>D", "A>D"},
		{4, "C>B B>A ABC>D", "ABC>D", "C>D"},
		{5, "A>B C>D ABCD>E", "ABCD>E", "AC>E"},
		{5, "ABCD>E", "ABCD>E", "ABCD>E"},
		// Right is in Left
		{3, "", "AB>A", "A>A"},
		{3, "", "AB>B", "B>B"},
		{5, "", "ABCDE>C", "C>C"},
		{3, "", "A>A", "A>A"},
		{3, "B>A", "AB>A", "B>A"},
		{3, "A>B", "AB>B", "B>B"},
		{3, "B>A C>A", "ABC>A", "C>A"},
		{3, "none>A", "A>A", "none>A"},
		{3, "none>A", "ABC>A", "none>A"},
		// to the empty set, and from it
		{3, "none>C", "AB>C", "none>C"},
		{3, "none>A A>B", "B>C", "B>C"},
		{3, "none>A A>B B>C", "ABC>C", "none>C"},
		{3, "none>A A>B", "none>B", "none>B"},
		{3, "none>A", "none>A", "none>A"},
		// implied, but not in the list
		{3, "A>B B>C", "A>C", "A>C"},
		{4, "A>B B>C", "AD>C", "A>C"},
		{5, "A>B B>C CD>E", "ABD>E", "BD>E"},
		{5, "A>B B>C CD>E", "ACD>E", "CD>E"},
		{5, "A>B B>C CD>E", "AD>E", "AD>E"},
		// not implied
		{3, "A>B B>C", "B>A", "B>A"},
		{3, "", "AB>C", "AB>C"},
		{4, "A>B B>C", "ABC>D", "ABC>D"},
		{4, "AB>C", "AD>C", "AD>C"},
		{2, "A>B", "none>B", "none>B"},
	}
	for _, c := range cases {
		checkLeft(t, c.n, depsIn(c.deps), depsIn(c.d)[0], depsIn(c.want)[0])
	}
}

// TestReduceLeftOfManyDeps has as many dependencies as there may be, and one more.
func TestReduceLeftOfManyDeps(t *testing.T) {
	d := depsIn("ABCD>E")[0]
	full := append(make([]impl.Dep, impl.MaxDeps-1), depsIn("B>E")...)
	checkLeft(t, 5, full, d, depsIn("B>E")[0])
	checkLeft(t, 5, full, depsIn("ABCD>C")[0], depsIn("C>C")[0])
	full = append(full, impl.Dep{})
	checkLeft(t, 5, full, d, d)
	checkLeft(t, 5, full, depsIn("ABCD>C")[0], depsIn("ABCD>C")[0])
}

// TestReduceLeftOfNoDep has dependencies that are not valid, and lists that would imply the one for each column: it stays, field by field.
func TestReduceLeftOfNoDep(t *testing.T) {
	for n := 1; n <= impl.MaxColumns; n++ {
		all := make([]impl.Dep, n)
		for right := range all {
			all[right].Right = right
		}
		for _, l := range [][]impl.Dep{nil, {}, {{}}, all} {
			for _, bad := range badDepsOf(n) {
				checkLeft(t, n, l, bad, bad)
			}
			for _, d := range depsOf(5) {
				if d.Left >= 1<<n || d.Right >= n {
					checkLeft(t, n, l, d, d)
				}
			}
		}
	}
	// Without the columns that are not there, these would be implied.
	checkLeft(t, 3, depsIn("none>A"), depsIn("AD>A")[0], depsIn("AD>A")[0])
	checkLeft(t, 3, nil, depsIn("ABD>B")[0], depsIn("ABD>B")[0])
}

func TestCoverOf(t *testing.T) {
	cases := []struct {
		n          int
		deps, want string
	}{
		{3, "A>B B>C A>C AB>C", "A>B B>C"},
		{3, "AB>C A>C B>C A>B", "B>C A>B"},
		{3, "A>B B>C", "A>B B>C"},
		// twice: it stays once, at its first place, where it is not implied by others
		{3, "A>B A>B", "A>B"},
		{3, "A>B B>C A>B", "A>B B>C"},
		{3, "A>B B>C A>B B>C A>B", "A>B B>C"},
		{3, "A>C A>B B>C A>C", "A>B B>C"},
		// different ones become equal
		{4, "AB>D BC>D B>D", "B>D"},
		{4, "AB>D A>C BC>D B>D", "B>D A>C"},
		{3, "AB>C A>B A>C", "A>C A>B"},
		{3, "AC>B BC>A AB>C", "AC>B BC>A AB>C"},
		{4, "ABC>D B>C AB>D A>B", "A>D B>C A>B"},
		// one that implies itself is removed
		{3, "AB>A", ""},
		{3, "A>A B>B C>C", ""},
		{3, "A>A A>B B>B", "A>B"},
		{5, "ABCDE>A ABCDE>E", ""},
		{3, "none>A AB>A", "none>A"},
		{3, "AB>A none>A", "none>A"},
		// the order decides
		{3, "A>B B>A A>C B>C", "A>B B>A B>C"},
		{3, "A>B B>A B>C A>C", "A>B B>A A>C"},
		{3, "A>C B>C A>B B>A", "B>C A>B B>A"},
		{3, "B>C A>C B>A A>B", "A>C B>A A>B"},
		{3, "A>C A>B B>A B>C", "A>B B>A B>C"},
		{3, "B>C B>A A>B A>C", "B>A A>B A>C"},
		{3, "A>B A>C B>A B>C C>A C>B", "A>C B>C C>A C>B"},
		{3, "C>B C>A B>C B>A A>C A>B", "C>A B>A A>C A>B"},
		{3, "A>B B>C C>A A>C C>B B>A", "A>C C>B B>A"},
		// a left side is reduced by the whole list, also by what is removed later
		{3, "A>C AB>C A>B B>C", "B>C A>B"},
		{3, "AB>C B>A A>C", "B>A A>C"},
		{4, "AB>C C>B A>B", "A>C C>B"},
		{4, "A>B ABC>D", "A>B AC>D"},
		{5, "A>B B>C C>D D>E A>E AC>E BD>E", "A>B B>C C>D D>E"},
		// the empty set
		{3, "none>A none>B none>C", "none>A none>B none>C"},
		{3, "A>B none>A B>C", "none>B none>A none>C"},
		{3, "none>A A>B A>B", "none>A none>B"},
		{2, "none>A B>A", "none>A"},
		// none
		{1, "", ""},
		{5, "", ""},
	}
	for _, c := range cases {
		l, want := depsIn(c.deps), depsIn(c.want)
		checkCoverOf(t, c.n, l, want)
		checkReducedList(t, c.n, l)
	}
}

// TestCoverOfAnyOrder has two dependencies of which one is removed, in every order.
func TestCoverOfAnyOrder(t *testing.T) {
	for _, text := range []string{"A>B B>A A>C B>C", "A>C A>B B>A BC>D AC>D", "none>A A>B none>B B>A", "AB>C C>A BC>D AB>D"} {
		orders := [][]impl.Dep{nil}
		for _, d := range depsIn(text) {
			var longer [][]impl.Dep
			for _, order := range orders {
				for place := range len(order) + 1 {
					longer = append(longer, slices.Insert(slices.Clone(order), place, d))
				}
			}
			orders = longer
		}
		for _, order := range orders {
			checkReducedList(t, 4, order)
		}
	}
}

// TestCoverOfAsManyDeps has as many dependencies as there may be, all needed, all equal, or all implied by themselves, and one more.
func TestCoverOfAsManyDeps(t *testing.T) {
	var needed []impl.Dep
	for _, left := range levelOf(5, 3) {
		for right := range 5 {
			if !hasColumn(left, right) {
				needed = append(needed, impl.Dep{Left: left, Right: right})
			}
		}
	}
	if len(needed) != impl.MaxDeps {
		t.Fatalf("%d dependencies of three columns, want %d", len(needed), impl.MaxDeps)
	}
	checkReducedList(t, 5, needed)
	checkCoverOf(t, 5, append(needed, needed[0]), nil)
	checkIsCover(t, 5, append(needed, needed[0]), false)
	for _, d := range depsIn("A>B none>E ABCD>E ABC>C") {
		full := slices.Repeat([]impl.Dep{d}, impl.MaxDeps)
		checkReducedList(t, 5, full)
		checkCoverOf(t, 5, append(full, d), nil)
		checkIsCover(t, 5, append(full, d), false)
		checkKeysOf(t, 5, append(full, d), nil)
		checkProjected(t, 5, append(full, d), 31, nil)
	}
}

// TestCoverHoldsInTheSameTables has pairs of rows and small tables: all of a list hold exactly if all of its cover do, and not if one of the cover is left out.
func TestCoverHoldsInTheSameTables(t *testing.T) {
	for _, l := range meaningLists() {
		cover := impl.CoverOf(5, l)
		missed := make([]bool, len(cover))
		for set := range 32 {
			table := pairOf(5, set)
			if allHold(table, impl.NullsEqual, l) != allHold(table, impl.NullsEqual, cover) {
				t.Fatalf("not all of %v hold where all of %v do, in %v", l, cover, table)
			}
			for i := range cover {
				less := slices.Delete(slices.Clone(cover), i, i+1)
				missed[i] = missed[i] || allHold(table, impl.NullsEqual, less) && !allHold(table, impl.NullsEqual, l)
			}
		}
		if slices.Contains(missed, false) {
			t.Fatalf("not all of %v are missed where they are left out: %v", cover, missed)
		}
	}
	for _, table := range tinyTables() {
		for _, l := range shortDeps(table.Columns, 1) {
			cover := impl.CoverOf(table.Columns, l)
			for _, mode := range modes {
				if allHold(table, mode, l) != allHold(table, mode, cover) {
					t.Fatalf("not all of %v hold where all of %v do, in %v", l, cover, table)
				}
			}
		}
	}
}

func TestIsCover(t *testing.T) {
	cases := []struct {
		n    int
		deps string
		want bool
	}{
		{3, "A>B B>C", true},
		{3, "B>C A>B", true},
		{3, "A>B B>A", true},
		{3, "none>A none>B", true},
		{5, "ABCD>E", true},
		{5, "AB>C CD>E", true},
		// a dependency more
		{3, "A>C A>B B>C", false},
		{3, "A>B A>C B>C", false},
		{3, "A>B B>C A>C", false},
		{3, "A>B B>A A>C B>C", false},
		{3, "A>B A>B", false},
		{3, "B>C A>B B>C", false},
		{3, "none>A none>A", false},
		{3, "AB>A", false},
		{3, "A>A", false},
		{3, "A>B C>C", false},
		// a column more
		{3, "AB>C A>B", false},
		{3, "A>B AB>C", false},
		{3, "BC>A C>B", false},
		{3, "none>A A>B", false},
		{3, "none>B AB>C", false},
		{4, "A>B B>C ACD>B", false},
		{4, "A>B B>C AC>D", false},
		{5, "A>B BC>D ABCD>E", false},
		// a column that is needed
		{3, "B>A B>C AC>B", true},
		{4, "AB>C BC>D", true},
	}
	for _, c := range cases {
		l := depsIn(c.deps)
		checkIsCover(t, c.n, l, c.want)
		if c.want {
			checkCoverOf(t, c.n, l, l)
		}
	}
}

// TestIsCoverOfMore adds an implied dependency to a cover at every place, and a column to each left side.
func TestIsCoverOfMore(t *testing.T) {
	for _, l := range meaningLists() {
		cover := impl.CoverOf(5, l)
		for _, d := range depsOf(5) {
			if len(cover) > 0 && !slowImplied(5, cover, d) {
				continue
			}
			for place := range len(cover) + 1 {
				more := slices.Insert(slices.Clone(cover), place, d)
				checkIsCover(t, 5, more, len(more) <= 20 && slowIsCover(5, more))
				if slowImplied(5, cover, d) {
					checkIsCover(t, 5, more, false)
				}
			}
		}
		for place, d := range cover {
			for column := range 5 {
				more := slices.Clone(cover)
				more[place].Left |= 1 << column
				checkIsCover(t, 5, more, slowIsCover(5, more))
				if more[place] != d && slowImplied(5, more, d) {
					checkIsCover(t, 5, more, false)
				}
			}
		}
	}
}

func TestKeysOf(t *testing.T) {
	cases := []struct {
		n     int
		deps  string
		want  []int
		prime int
	}{
		{3, "A>B B>C", []int{1}, 1},
		{3, "A>B B>A", []int{5, 6}, 7},
		{3, "A>B B>C C>A", []int{1, 2, 4}, 7},
		{3, "", []int{7}, 7},
		{1, "", []int{1}, 1},
		{1, "none>A", []int{0}, 0},
		{3, "none>A none>B none>C", []int{0}, 0},
		{5, "none>A A>B B>C C>D D>E", []int{0}, 0},
		{5, "none>A none>B none>C none>D", []int{16}, 16},
		{2, "none>A", []int{2}, 2},
		{3, "A>A AB>B", []int{7}, 7},
		// ascending as numbers, not by size
		{4, "AB>C C>D D>A", []int{3, 6, 10}, 15},
		{5, "AB>C C>D D>E E>A", []int{3, 6, 10, 18}, 31},
		{4, "D>A D>B D>C ABC>D", []int{7, 8}, 15},
		{5, "CD>E E>A E>B E>C E>D AB>E", []int{3, 12, 16}, 31},
		{5, "A>B A>C A>D A>E BC>A", []int{1, 6}, 7},
		// with a common column, which no dependency determines
		{4, "A>B B>A C>D D>C", []int{5, 6, 9, 10}, 15},
		{4, "AB>C AC>B", []int{11, 13}, 15},
		{5, "A>B B>C C>A", []int{25, 26, 28}, 31},
		{5, "AB>C", []int{27}, 27},
		{5, "ABCD>E", []int{15}, 15},
		{5, "ABCD>E BCDE>A", []int{15, 30}, 31},
		// not the greatest of those with one column more
		{3, "A>B A>C AB>A", []int{1}, 1},
	}
	for _, c := range cases {
		checkKeysOf(t, c.n, depsIn(c.deps), c.want)
		if got := impl.PrimeColumns(c.n, depsIn(c.deps)); got != c.prime {
			t.Errorf("PrimeColumns(%d, %q) = %d, want %d", c.n, c.deps, got, c.prime)
		}
	}
}

// TestKeysOfLevels has dependencies of all sets of one size, and all of them as keys, as many as there may be.
func TestKeysOfLevels(t *testing.T) {
	for size := 1; size <= 4; size++ {
		var l []impl.Dep
		for _, left := range levelOf(5, size) {
			for right := range 5 {
				if !hasColumn(left, right) && len(l) < impl.MaxDeps {
					l = append(l, impl.Dep{Left: left, Right: right})
				}
			}
		}
		checkKeysOf(t, 5, l, slowKeys(5, l))
	}
	// all pairs lead to a third column, and on to the others
	checkKeysOf(t, 5, depsIn("AB>C AB>D AB>E AC>B AC>D AC>E AD>B AD>C AD>E AE>B BC>A BC>D BD>A BD>E BE>A CD>A CD>B CE>A CE>B DE>A"), []int{3, 5, 6, 9, 10, 12, 17, 18, 20, 24})
	checkKeysOf(t, 5, depsIn("ABC>D ABD>E ABE>C ACD>B ACE>D ADE>B BCD>E BCE>A BDE>A CDE>A"), []int{7, 11, 13, 14, 19, 21, 22, 25, 26, 28})
}

// TestKeysOfCovers expects that a list, its cover and what a table has the same keys.
func TestKeysOfCovers(t *testing.T) {
	for _, l := range meaningLists() {
		checkKeysOf(t, 5, impl.CoverOf(5, l), impl.KeysOf(5, l))
	}
	for _, table := range append(someTables(), tinyTables()...) {
		// Rows that are the same would be without a key.
		different := impl.ProjectTable(table, 1<<table.Columns-1)
		l := impl.MinimalDeps(different, impl.NullsEqual)
		if len(l) <= impl.MaxDeps && impl.IsTable(different) {
			checkKeysOf(t, different.Columns, l, impl.MinimalKeys(different, impl.NullsEqual))
		}
	}
}

func TestProjectDeps(t *testing.T) {
	cases := []struct {
		n    int
		deps string
		set  int
		want string
	}{
		{3, "A>B B>C", 5, "A>C"},
		{3, "A>B B>C", 7, "A>B A>C B>C"},
		{3, "A>B B>C", 3, "A>B"},
		{3, "A>B B>C", 6, "B>C"},
		{3, "A>B B>C", 1, ""},
		{3, "A>B B>C", 0, ""},
		{3, "A>B B>C", 8, ""},
		{3, "A>B B>C", -1, ""},
		// columns ascending, for each one the smaller parts first
		{3, "A>B B>C C>A", 7, "B>A C>A A>B C>B A>C B>C"},
		{3, "A>B B>C C>A", 5, "C>A A>C"},
		{4, "AB>D C>D", 15, "C>D AB>D"},
		{4, "CD>A B>A", 15, "B>A CD>A"},
		{5, "AD>E BC>E", 31, "BC>E AD>E"},
		{5, "AE>D BC>D", 29, "AE>D"},
		{5, "ABC>E D>E", 31, "D>E ABC>E"},
		// no part is taken of which a smaller one was
		{4, "A>D AB>D", 15, "A>D"},
		{4, "AB>D A>D", 15, "A>D"},
		{4, "none>D AB>D", 15, "none>D"},
		{4, "none>D AB>D", 8, "none>D"},
		{4, "none>D AB>D", 7, ""},
		// through columns outside the set
		{5, "A>B B>C C>D D>E", 17, "A>E"},
		{5, "A>B B>C C>D D>E", 21, "A>C A>E C>E"},
		{4, "A>B BC>D", 13, "AC>D"},
		{5, "AB>C CD>E", 27, "ABD>E"},
		{5, "A>C B>C C>D", 11, "A>D B>D"},
		{4, "A>C C>A B>C C>B", 3, "B>A A>B"},
		{3, "none>A A>B", 2, "none>B"},
		// trivial ones are left out
		{3, "A>A AB>B", 7, ""},
		{3, "", 7, ""},
		{5, "ABCDE>A", 31, ""},
	}
	for _, c := range cases {
		checkProjected(t, c.n, depsIn(c.deps), c.set, depsIn(c.want))
	}
}

// TestProjectDepsOfSets has all sets and numbers beyond the first n columns, and others that are no sets.
func TestProjectDepsOfSets(t *testing.T) {
	for n := 1; n <= impl.MaxColumns; n++ {
		all := make([]impl.Dep, n)
		for right := range all {
			all[right].Right = right
		}
		for _, l := range [][]impl.Dep{nil, {{}}, {{Left: 1<<n - 1}}, all} {
			for set := range 1 << n {
				checkProjected(t, n, l, set, slowProjected(n, slowClosures(n, l), set))
			}
			for _, far := range farSets(n) {
				checkProjected(t, n, l, far, nil)
			}
		}
	}
}

// TestProjectDepsKeepClosures expects that the dependencies within a set lead, from each of its parts, to what is in the set and in the closure, and that no column on the left can be spared.
func TestProjectDepsKeepClosures(t *testing.T) {
	for _, l := range meaningLists() {
		for set := range 32 {
			within := impl.ProjectDeps(5, l, set)
			if len(within) > impl.MaxDeps {
				continue
			}
			for _, part := range append(smallerParts(set), set) {
				checkClosure(t, 5, within, part, slowClosure(5, l, part)&set)
			}
			for _, d := range within {
				checkLeft(t, 5, l, d, d)
				checkLeft(t, 5, within, d, d)
			}
		}
		if all := impl.ProjectDeps(5, l, 31); len(all) <= impl.MaxDeps {
			checkSameMeaning(t, 5, all, l, true)
			checkProjected(t, 5, all, 31, all)
		}
	}
}

// TestProjectDepsOfTables compares them with the minimal dependencies of the projected table, whose columns have other numbers.
func TestProjectDepsOfTables(t *testing.T) {
	for _, table := range append(coverTables(), tinyTables()...) {
		l := impl.MinimalDeps(table, impl.NullsEqual)
		if len(l) > impl.MaxDeps {
			continue
		}
		for set := 1; set < 1<<table.Columns; set++ {
			var columns []int
			for column := range table.Columns {
				if hasColumn(set, column) {
					columns = append(columns, column)
				}
			}
			var want []impl.Dep
			for _, d := range impl.MinimalDeps(impl.ProjectTable(table, set), impl.NullsEqual) {
				left := 0
				for i, column := range columns {
					left += d.Left >> i & 1 << column
				}
				want = append(want, impl.Dep{Left: left, Right: columns[d.Right]})
			}
			checkProjected(t, table.Columns, l, set, want)
		}
	}
}

// TestProjectDepsOfMany has more dependencies than a list may have: all sets of two columns determine the others.
func TestProjectDepsOfMany(t *testing.T) {
	l := depsIn("AB>C AB>D AB>E AC>B AC>D AC>E AD>B AD>C AD>E AE>B BC>A BC>D BD>A BD>E BE>A CD>A CD>B CE>A CE>B DE>A")
	got := impl.ProjectDeps(5, l, 31)
	if !slices.Equal(got, levelCover(5, 2)) || len(got) != 30 {
		t.Fatalf("ProjectDeps(5, %v, 31) = %v", l, got)
	}
}

// TestReducedArgumentsStay compares lists, with their unused capacity, before and after the calls, and after their results were overwritten.
func TestReducedArgumentsStay(t *testing.T) {
	lists := append(meaningLists(), badLists(5)...)
	for _, l := range append(lists, badLists(3)...) {
		a := spareDeps(l)
		before := slices.Clone(a[:cap(a)])
		for n := -1; n <= 6; n++ {
			spoilDeps(impl.CoverOf(n, a))
			impl.IsCover(n, a)
			spoilRow(impl.KeysOf(n, a))
			impl.PrimeColumns(n, a)
			for set := -1; set <= 32; set++ {
				spoilDeps(impl.ProjectDeps(n, a, set))
				for right := -1; right <= 5; right++ {
					impl.ReduceLeft(n, a, impl.Dep{Left: set, Right: right})
				}
			}
			if !slices.Equal(a[:cap(a)], before) {
				t.Fatalf("%v became %v", before, a[:cap(a)])
			}
		}
	}
}

// TestReducedOfUnusedCapacity has dependencies behind the end of the list, within its capacity.
func TestReducedOfUnusedCapacity(t *testing.T) {
	l := depsIn("A>B B>C C>A A>C")
	checkCoverOf(t, 3, l[:2], l[:2])
	checkIsCover(t, 3, l[:3], true)
	checkIsCover(t, 3, l, false)
	checkKeysOf(t, 3, l[:2], []int{1})
	checkKeysOf(t, 3, l[:3], []int{1, 2, 4})
	checkLeft(t, 3, l[:1], depsIn("AB>C")[0], depsIn("AB>C")[0])
	checkLeft(t, 3, l[:2], depsIn("AB>C")[0], depsIn("B>C")[0])
	checkProjected(t, 3, l[:1], 5, nil)
	checkProjected(t, 3, l[:2], 5, depsIn("A>C"))
	many := slices.Repeat(depsIn("A>B"), impl.MaxDeps+1)
	checkCoverOf(t, 2, many[:impl.MaxDeps], many[:1])
	checkCoverOf(t, 2, many, nil)
}

// TestReducedResultsAreNewMemory changes one result before the next one, and an argument after the call.
func TestReducedResultsAreNewMemory(t *testing.T) {
	for _, l := range append(meaningLists(), depsIn("A>B B>C CD>E"), depsIn("A>A A>B B>C CD>E")) {
		checkNewMemory(t, func() []impl.Dep { return impl.CoverOf(5, l) })
		checkNewMemory(t, func() []int { return impl.KeysOf(5, l) })
		for set := range 32 {
			checkNewMemory(t, func() []impl.Dep { return impl.ProjectDeps(5, l, set) })
		}
		a := spareDeps(l)
		cover, keys, within := impl.CoverOf(5, a), impl.KeysOf(5, a), impl.ProjectDeps(5, a, 31)
		spoilDeps(a)
		if !slices.Equal(cover, slowCoverOf(5, l)) || !slices.Equal(keys, slowKeys(5, l)) || !slices.Equal(within, slowProjected(5, slowClosures(5, l), 31)) {
			t.Fatalf("%v, %v and %v after a change of the argument", cover, keys, within)
		}
	}
}

// TestReducedEveryTime makes the same calls many times.
func TestReducedEveryTime(t *testing.T) {
	l := depsIn("AB>C A>B B>A A>C B>C")
	for range 1000 {
		checkCoverOf(t, 4, l, depsIn("A>B B>A A>C"))
		checkKeysOf(t, 4, l, []int{9, 10})
		checkProjected(t, 4, l, 5, depsIn("A>C"))
		checkLeft(t, 4, l, l[0], depsIn("B>C")[0])
		checkIsCover(t, 4, l, false)
	}
}
