package tests

import (
	"math"
	"math/rand"
	"slices"
	"strings"
	"testing"

	"loop.example/g01988/impl"
)

// Promise 7: a dependency is implied exactly if it holds in all tables with the given ones, with a derivation or a counterexample. Two rows that agree in a closed set alone are such a table, so that a dependency is implied exactly if every closed set that contains its Left contains its Right.

// depOfText has the formats of all dependencies.
var depOfText = textsOfDeps(5)

// depsIn reads dependencies with spaces between them, without ParseDep.
func depsIn(text string) []impl.Dep {
	var l []impl.Dep
	for _, word := range strings.Fields(text) {
		d, known := depOfText[word]
		if !known {
			panic(word)
		}
		l = append(l, d)
	}
	return l
}

// slowIsClosed looks for a dependency with all columns of Left in a set, but not Right.
func slowIsClosed(l []impl.Dep, set int) bool {
	for _, d := range l {
		inside := true
		for column := range 5 {
			if hasColumn(d.Left, column) && !hasColumn(set, column) {
				inside = false
			}
		}
		if inside && !hasColumn(set, d.Right) {
			return false
		}
	}
	return true
}

// slowClosure tries all sets: the closure is what all closed sets have in common that contain the set.
func slowClosure(n int, l []impl.Dep, set int) int {
	common := 1<<n - 1
	for closed := range 1 << n {
		if closed&set == set && slowIsClosed(l, closed) {
			common &= closed
		}
	}
	return common
}

func slowClosedSets(n int, l []impl.Dep) []int {
	var closed []int
	for set := range 1 << n {
		if slowIsClosed(l, set) {
			closed = append(closed, set)
		}
	}
	return closed
}

// slowImplied asks every closed set.
func slowImplied(n int, l []impl.Dep, d impl.Dep) bool {
	for set := range 1 << n {
		if set&d.Left == d.Left && slowIsClosed(l, set) && !hasColumn(set, d.Right) {
			return false
		}
	}
	return true
}

// slowDerivation is for dependencies that are implied.
func slowDerivation(l []impl.Dep, d impl.Dep) []impl.Derived {
	var steps []impl.Derived
	set := d.Left
	for at := 0; !hasColumn(set, d.Right); at++ {
		first := l[at]
		if set&first.Left == first.Left && !hasColumn(set, first.Right) {
			next := set + 1<<first.Right
			steps = append(steps, impl.Derived{Dep: at, Before: set, After: next})
			set, at = next, -1
		}
	}
	return steps
}

// slowChecked reads the conditions for a derivation one after the other, for valid dependencies.
func slowChecked(l []impl.Dep, d impl.Dep, steps []impl.Derived) bool {
	set := d.Left
	for _, s := range steps {
		if s.Before != set || s.Dep < 0 || s.Dep >= len(l) {
			return false
		}
		applied := l[s.Dep]
		if applied.Left&set != applied.Left || s.After != set|1<<applied.Right {
			return false
		}
		set = s.After
	}
	return hasColumn(set, d.Right)
}

// shortDeps are all lists of at most so many dependencies over n columns.
func shortDeps(n, length int) [][]impl.Dep {
	all := [][]impl.Dep{nil}
	for at := 0; len(all[at]) < length; at++ {
		for _, d := range depsOf(n) {
			all = append(all, append(slices.Clone(all[at]), d))
		}
	}
	return all
}

// longDeps has so many dependencies over n columns, most of them with one or two columns on the left.
func longDeps(r *rand.Rand, n, length int) []impl.Dep {
	l := make([]impl.Dep, length)
	for i := range l {
		for range 1 + r.Intn(3) {
			l[i].Left |= 1 << r.Intn(n)
		}
		if r.Intn(20) == 0 {
			l[i].Left = 0
		}
		l[i].Right = r.Intn(n)
	}
	return l
}

// meaningLists are valid lists over five columns of every kind: none, one, as many as there may be, chains in both orders, circles, the empty set, equal ones and trivial ones.
func meaningLists() [][]impl.Dep {
	all := [][]impl.Dep{nil, {}}
	for _, text := range []string{
		"A>B", "A>B B>C", "B>C A>B", "A>B B>C C>D D>E", "D>E C>D B>C A>B", "A>B B>A", "A>B B>C C>D D>E E>A",
		"none>A", "none>E", "none>A none>B none>C none>D none>E", "none>A A>B B>C",
		"A>A", "AB>A", "ABCDE>C", "A>A B>B C>C D>D E>E", "A>B A>B", "B>C A>B B>C A>B",
		"AB>C C>D D>A", "AB>C C>B", "AB>E CD>E E>A", "ABCD>E", "BCDE>A", "AB>C AC>B BC>A", "A>B AB>C ABC>D ABCD>E",
	} {
		all = append(all, depsIn(text))
	}
	r := rand.New(rand.NewSource(23))
	for length := range impl.MaxDeps + 1 {
		all = append(all, longDeps(r, 5, length), longDeps(r, 5, length))
	}
	return all
}

// badLists are lists that are not valid for n columns: a dependency of other columns at every place, or too many.
func badLists(n int) [][]impl.Dep {
	all := [][]impl.Dep{make([]impl.Dep, impl.MaxDeps+1), slices.Repeat([]impl.Dep{{Left: 1}}, 2*impl.MaxDeps)}
	for _, bad := range badDepsOf(n) {
		all = append(all, []impl.Dep{bad})
		for place := range 4 {
			all = append(all, slices.Insert([]impl.Dep{{}, {Left: 1}, {}}, place, bad))
		}
		full := make([]impl.Dep, impl.MaxDeps)
		full[impl.MaxDeps-1] = bad
		all = append(all, full)
	}
	return all
}

func checkAreDeps(t *testing.T, n int, l []impl.Dep, want bool) {
	t.Helper()
	if got := impl.AreDeps(n, l); got != want {
		t.Fatalf("AreDeps(%d, %v) = %v, want %v", n, l, got, want)
	}
}

func checkClosure(t *testing.T, n int, l []impl.Dep, set, want int) {
	t.Helper()
	if got := impl.ClosureOf(n, l, set); got != want {
		t.Fatalf("ClosureOf(%d, %v, %d) = %d, want %d", n, l, set, got, want)
	}
}

func checkClosedSets(t *testing.T, n int, l []impl.Dep, want []int) {
	t.Helper()
	if got := impl.ClosedSets(n, l); !slices.Equal(got, want) {
		t.Fatalf("ClosedSets(%d, %v) = %v, want %v", n, l, got, want)
	}
}

func checkDerivation(t *testing.T, n int, l []impl.Dep, d impl.Dep, steps []impl.Derived, want bool) {
	t.Helper()
	if got := impl.CheckDerivation(n, l, d, steps); got != want {
		t.Fatalf("CheckDerivation(%d, %v, %v, %v) = %v, want %v", n, l, d, steps, got, want)
	}
}

func checkSameMeaning(t *testing.T, n int, a, b []impl.Dep, want bool) {
	t.Helper()
	if impl.SameMeaning(n, a, b) != want || impl.SameMeaning(n, b, a) != want {
		t.Fatalf("SameMeaning(%d, %v, %v) is not %v", n, a, b, want)
	}
}

// checkImplied expects a derivation with these steps.
func checkImplied(t *testing.T, n int, l []impl.Dep, d impl.Dep, want []impl.Derived) {
	t.Helper()
	if !impl.ImpliesDep(n, l, d) {
		t.Fatalf("ImpliesDep(%d, %v, %v) = false", n, l, d)
	}
	steps, ok := impl.DeriveDep(n, l, d)
	if !ok || !slices.Equal(steps, want) {
		t.Fatalf("DeriveDep(%d, %v, %v) = %v, %v, want %v", n, l, d, steps, ok, want)
	}
	checkDerivation(t, n, l, d, steps, true)
}

// checkNotImplied expects that there is no derivation.
func checkNotImplied(t *testing.T, n int, l []impl.Dep, d impl.Dep) {
	t.Helper()
	if impl.ImpliesDep(n, l, d) {
		t.Fatalf("ImpliesDep(%d, %v, %v) = true", n, l, d)
	}
	if steps, ok := impl.DeriveDep(n, l, d); ok || len(steps) != 0 {
		t.Fatalf("DeriveDep(%d, %v, %v) = %v, %v, want nothing and false", n, l, d, steps, ok)
	}
	checkDerivation(t, n, l, d, nil, false)
}

// checkMeaning compares all functions with the sets tried one by one, for a valid list.
func checkMeaning(t *testing.T, n int, l []impl.Dep) {
	t.Helper()
	checkAreDeps(t, n, l, true)
	for set := range 1 << n {
		checkClosure(t, n, l, set, slowClosure(n, l, set))
	}
	checkClosedSets(t, n, l, slowClosedSets(n, l))
	for _, d := range depsOf(n) {
		if slowImplied(n, l, d) {
			checkImplied(t, n, l, d, slowDerivation(l, d))
		} else {
			checkNotImplied(t, n, l, d)
		}
	}
}

// checkNoMeaning expects the results for lists that are not valid.
func checkNoMeaning(t *testing.T, n int, l []impl.Dep) {
	t.Helper()
	checkAreDeps(t, n, l, false)
	for set := -1; set <= 32; set++ {
		checkClosure(t, n, l, set, 0)
	}
	checkClosedSets(t, n, l, nil)
	for _, d := range []impl.Dep{{}, {Left: 1}, {Left: 1, Right: 1}, {Left: 31, Right: 4}, {Left: -1, Right: -1}} {
		checkNotImplied(t, n, l, d)
		checkDerivation(t, n, l, d, []impl.Derived{{Before: d.Left, After: d.Left | 1}}, false)
	}
	checkSameMeaning(t, n, l, l, false)
	checkSameMeaning(t, n, l, nil, false)
	checkSameMeaning(t, n, l, []impl.Dep{{}}, false)
}

func TestAreDeps(t *testing.T) {
	for n := -1; n <= impl.MaxColumns+1; n++ {
		valid := n >= 1 && n <= 5
		checkAreDeps(t, n, nil, valid)
		checkAreDeps(t, n, []impl.Dep{}, valid)
		checkAreDeps(t, n, []impl.Dep{{Left: -1}, {Right: 5}}[:0], valid)
		for length := 1; length <= 2*impl.MaxDeps; length++ {
			checkAreDeps(t, n, make([]impl.Dep, length), valid && length <= 20)
			checkAreDeps(t, n, slices.Repeat([]impl.Dep{{Left: 1}}, length), valid && length <= 20)
		}
		for _, d := range depsOf(5) {
			checkAreDeps(t, n, []impl.Dep{d}, valid && d.Left < 1<<n && d.Right < n)
		}
	}
	if impl.MaxDeps != 20 {
		t.Errorf("MaxDeps = %d, want 20", impl.MaxDeps)
	}
}

// TestClosuresOfNoDeps has dependencies that are not valid at every place of a list, and too many.
func TestClosuresOfNoDeps(t *testing.T) {
	checkBadDeps(t, checkNoMeaning)
	// A dependency that is beyond n columns is one of more.
	for n := 1; n <= impl.MaxColumns; n++ {
		for _, d := range depsOf(5) {
			if d.Left >= 1<<n || d.Right >= n {
				checkNoMeaning(t, n, []impl.Dep{{}, d})
			} else {
				checkMeaning(t, n, []impl.Dep{{}, d})
			}
		}
	}
}

func TestClosureOf(t *testing.T) {
	cases := []struct {
		n    int
		deps string
		set  int
		want int
	}{
		{3, "A>B B>C", 1, 7},
		{3, "A>B B>C", 2, 6},
		{3, "A>B B>C", 4, 4},
		{3, "A>B B>C", 0, 0},
		// the same in the other order: one round does not suffice
		{3, "B>C A>B", 1, 7},
		{5, "D>E C>D B>C A>B", 1, 31},
		{5, "D>E C>D B>C A>B", 2, 30},
		{5, "D>E C>D B>C A>B", 8, 24},
		{5, "ABCD>E ABC>D AB>C A>B", 1, 31},
		{5, "ABCD>E ABC>D AB>C A>B", 30, 30},
		{5, "C>E D>C B>D none>B", 0, 30},
		// all columns of Left are needed
		{3, "AB>C", 1, 1},
		{3, "AB>C", 2, 2},
		{3, "AB>C", 3, 7},
		{5, "ABCD>E", 15, 31},
		{5, "ABCD>E", 14, 14},
		{5, "BCDE>A", 30, 31},
		{5, "BCDE>A", 15, 15},
		// Left is the empty set
		{2, "none>B", 0, 2},
		{2, "none>B", 1, 3},
		{5, "none>A A>E", 0, 17},
		{1, "none>A", 0, 1},
		{5, "none>A none>B none>C none>D none>E", 0, 31},
		// dependencies that apply to themselves
		{2, "A>A", 0, 0},
		{2, "A>A AB>A", 1, 1},
		{2, "A>A AB>B", 2, 2},
		{5, "ABCDE>C", 31, 31},
		// two that lead to each other, and the same one twice
		{3, "A>B B>A", 1, 3},
		{3, "A>B B>A", 2, 3},
		{3, "A>B B>A", 4, 4},
		{3, "A>B A>B", 1, 3},
		{3, "A>B A>B", 2, 2},
		{4, "AB>C CD>A C>B", 12, 15},
		// no dependencies
		{3, "", 0, 0},
		{3, "", 5, 5},
		{5, "", 31, 31},
	}
	for _, c := range cases {
		checkClosure(t, c.n, depsIn(c.deps), c.set, c.want)
	}
}

// TestClosureOfSets has all sets and numbers beyond the first n columns, and others that are no sets.
func TestClosureOfSets(t *testing.T) {
	for n := 1; n <= impl.MaxColumns; n++ {
		for _, l := range [][]impl.Dep{nil, {}, {{}}, {{Left: 1}}, depsOf(n)[:min(20, n*1<<n)], {{Right: n - 1}, {Left: 1<<n - 1}}} {
			for set := -1; set <= 32; set++ {
				want := 0
				if set >= 0 && set < 1<<n {
					want = slowClosure(n, l, set)
				}
				checkClosure(t, n, l, set, want)
			}
			for _, far := range farSets(n) {
				checkClosure(t, n, l, far, 0)
			}
		}
	}
}

// checkFewDeps checks all lists of at most three dependencies over at most three columns, and of one over every number of columns.
func checkFewDeps(t *testing.T, check func(t *testing.T, n int, l []impl.Dep)) {
	t.Helper()
	for n := 1; n <= impl.MaxColumns; n++ {
		length := 1
		if n <= 3 {
			length = 3
		}
		for _, l := range shortDeps(n, length) {
			check(t, n, l)
		}
	}
}

// checkManyDeps checks lists of every length over four and five columns.
func checkManyDeps(t *testing.T, seed int64, check func(t *testing.T, n int, l []impl.Dep)) {
	t.Helper()
	r := rand.New(rand.NewSource(seed))
	for length := range impl.MaxDeps + 1 {
		for range 20 {
			n := 4 + r.Intn(2)
			check(t, n, longDeps(r, n, length))
		}
	}
	for _, l := range meaningLists() {
		check(t, 5, l)
	}
}

// checkBadDeps checks lists of every number of columns that are not valid, also some that are valid for more columns, and numbers of columns that are not valid.
func checkBadDeps(t *testing.T, check func(t *testing.T, n int, l []impl.Dep)) {
	t.Helper()
	for n := 1; n <= impl.MaxColumns; n++ {
		for _, l := range badLists(n) {
			check(t, n, l)
		}
	}
	for n := -1; n <= 3; n++ {
		check(t, n, depsIn("A>B AB>C D>A"))
	}
	for _, n := range append([]int{0}, badColumnCounts...) {
		for _, l := range [][]impl.Dep{nil, {}, {{}}, {{Left: 1}}, {{Left: -1, Right: -1}}} {
			check(t, n, l)
		}
	}
}

func TestClosuresOfFewDeps(t *testing.T) {
	checkFewDeps(t, checkMeaning)
}

func TestClosuresOfManyDeps(t *testing.T) {
	checkManyDeps(t, 24, checkMeaning)
}

// TestClosuresOfChains has each chain through all columns, in every order of its dependencies.
func TestClosuresOfChains(t *testing.T) {
	for _, letters := range []string{"ABCDE", "EDCBA", "CAEBD"} {
		links := []string{"none>" + letters[:1]}
		for at := 1; at < len(letters); at++ {
			links = append(links, letters[at-1:at]+">"+letters[at:at+1])
		}
		for shift := range links {
			order := append(slices.Clone(links[shift:]), links[:shift]...)
			checkClosure(t, 5, depsIn(strings.Join(order, " ")), 0, 31)
			slices.Reverse(order)
			checkClosure(t, 5, depsIn(strings.Join(order, " ")), 0, 31)
			checkMeaning(t, 5, depsIn(strings.Join(order[1:], " ")))
		}
	}
}

// TestClosureLaws expects of a closure that it contains the set, is closed, grows with the set, and does not depend on the order.
func TestClosureLaws(t *testing.T) {
	for _, l := range meaningLists() {
		other := slices.Clone(l)
		slices.Reverse(other)
		for set := range 32 {
			closure := impl.ClosureOf(5, l, set)
			if closure&set != set {
				t.Fatalf("ClosureOf(5, %v, %d) = %d, without a column of it", l, set, closure)
			}
			checkClosure(t, 5, l, closure, closure)
			checkClosure(t, 5, other, set, closure)
			for _, part := range smallerParts(set) {
				if smaller := impl.ClosureOf(5, l, part); smaller&closure != smaller {
					t.Fatalf("ClosureOf(5, %v, %d) = %d, but that of the part %d is %d", l, set, closure, part, smaller)
				}
			}
		}
	}
}

// TestTrivialDeps have Right in Left: they add nothing, and are implied by every valid list without steps.
func TestTrivialDeps(t *testing.T) {
	for n := 1; n <= impl.MaxColumns; n++ {
		lists := [][]impl.Dep{nil, {}, {{}}, {{Left: 1}}, {{Left: 1<<n - 1, Right: n - 1}}, slices.Repeat([]impl.Dep{{Right: n - 1}}, 20)}
		for _, d := range depsOf(n) {
			if !hasColumn(d.Left, d.Right) {
				continue
			}
			for _, l := range lists {
				checkImplied(t, n, l, d, nil)
				checkDerivation(t, n, l, d, []impl.Derived{}, true)
			}
			checkClosedSets(t, n, []impl.Dep{d}, slowClosedSets(n, nil))
			for set := range 1 << n {
				checkClosure(t, n, []impl.Dep{d}, set, set)
			}
			checkSameMeaning(t, n, []impl.Dep{d}, nil, true)
		}
	}
}

func TestImpliesDep(t *testing.T) {
	cases := []struct {
		n               int
		deps            string
		implied, others string
	}{
		{3, "A>B B>C", "A>B B>C A>C AB>C AC>B A>A BC>C ABC>A", "B>A C>A C>B none>A none>B none>C BC>A"},
		{3, "AB>C C>A", "AB>C C>A BC>A ABC>C", "A>C B>C C>B AC>B A>B B>A"},
		{2, "none>A", "none>A B>A A>A", "none>B A>B"},
		{2, "A>B B>A", "A>B B>A AB>A AB>B A>A", "none>A none>B"},
		{5, "A>B BC>D AD>E", "AC>D AC>E AD>B AD>E ABC>E", "A>C A>D A>E BC>E CD>E AB>E D>A"},
		{5, "", "A>A ABCDE>E BE>B", "none>A A>B ABCD>E BCDE>A"},
		{5, "ABCD>E", "ABCD>E", "ABC>E BCD>E ABD>E ACD>E ABCE>D"},
	}
	for _, c := range cases {
		l := depsIn(c.deps)
		for _, d := range depsIn(c.implied) {
			checkImplied(t, c.n, l, d, slowDerivation(l, d))
		}
		for _, d := range depsIn(c.others) {
			checkNotImplied(t, c.n, l, d)
		}
	}
}

// TestImpliedOfNoDep asks for dependencies that are not valid, of lists that would lead to any column.
func TestImpliedOfNoDep(t *testing.T) {
	for n := 1; n <= impl.MaxColumns; n++ {
		all := make([]impl.Dep, n)
		for right := range all {
			all[right].Right = right
		}
		for _, l := range [][]impl.Dep{nil, {}, {{}}, all} {
			for _, bad := range badDepsOf(n) {
				checkNotImplied(t, n, l, bad)
				checkDerivation(t, n, l, bad, []impl.Derived{{Before: bad.Left, After: bad.Left | 1}}, false)
				checkDerivation(t, n, l, bad, []impl.Derived{{After: 1}}, false)
			}
			for _, d := range depsOf(5) {
				if d.Left >= 1<<n || d.Right >= n {
					checkNotImplied(t, n, l, d)
				}
			}
		}
	}
}

// pairOf has two rows that are equal in the columns of a set alone.
func pairOf(n, set int) impl.Table {
	return tableOf(n, make([]int, n), rowOfSet(n, set, 0, 1))
}

// allHold asks for each dependency.
func allHold(table impl.Table, mode int, l []impl.Dep) bool {
	return !slices.ContainsFunc(l, func(d impl.Dep) bool { return !impl.HoldsDep(table, mode, d) })
}

// TestImpliedInPairs looks for a counterexample of two rows, which is there exactly if a dependency is not implied.
func TestImpliedInPairs(t *testing.T) {
	for _, l := range append(meaningLists(), shortDeps(3, 2)...) {
		var pairs []impl.Table
		for set := range 32 {
			if table := pairOf(5, set); allHold(table, impl.NullsApart, l) {
				pairs = append(pairs, table)
			}
		}
		for _, d := range depsOf(5) {
			against := slices.ContainsFunc(pairs, func(table impl.Table) bool { return !impl.HoldsDep(table, impl.NullsApart, d) })
			if got := impl.ImpliesDep(5, l, d); got == against {
				t.Fatalf("ImpliesDep(5, %v, %v) = %v, but a pair of rows against it: %v", l, d, got, against)
			}
		}
	}
}

// TestImpliedInTables expects that what is implied holds in each table with the given dependencies, and that what holds in a table implies nothing that does not.
func TestImpliedInTables(t *testing.T) {
	lists := shortDeps(2, 2)
	for _, table := range tinyTables() {
		for _, l := range lists {
			if !allHold(table, impl.NullsEqual, l) {
				continue
			}
			for _, d := range depsOf(2) {
				if impl.ImpliesDep(2, l, d) && !impl.HoldsDep(table, impl.NullsEqual, d) {
					t.Fatalf("%v is implied by %v, but does not hold in %v", d, l, table)
				}
			}
		}
	}
	for _, table := range coverTables() {
		cover := impl.MinimalDeps(table, impl.NullsEqual)
		if len(cover) > impl.MaxDeps {
			continue
		}
		for _, d := range depsOf(table.Columns) {
			if got := impl.ImpliesDep(table.Columns, cover, d); got != impl.HoldsDep(table, impl.NullsEqual, d) {
				t.Fatalf("ImpliesDep(%d, %v, %v) = %v, but not so in the table %v", table.Columns, cover, d, got, table)
			}
		}
	}
}

func TestDeriveDep(t *testing.T) {
	cases := []struct {
		n       int
		deps, d string
		want    []impl.Derived
	}{
		{3, "A>B B>C", "A>C", []impl.Derived{{Dep: 0, Before: 1, After: 3}, {Dep: 1, Before: 3, After: 7}}},
		{3, "B>C A>B", "A>C", []impl.Derived{{Dep: 1, Before: 1, After: 3}, {Dep: 0, Before: 3, After: 7}}},
		// no longer than until Right is in the set
		{3, "A>B B>C", "A>B", []impl.Derived{{Dep: 0, Before: 1, After: 3}}},
		{3, "A>B B>C", "AB>C", []impl.Derived{{Dep: 1, Before: 3, After: 7}}},
		{3, "A>C A>B", "A>C", []impl.Derived{{Dep: 0, Before: 1, After: 5}}},
		// the first dependency that enlarges the set, also where it is not needed
		{3, "A>B A>C", "A>C", []impl.Derived{{Dep: 0, Before: 1, After: 3}, {Dep: 1, Before: 3, After: 7}}},
		{5, "E>A none>B A>C C>D", "A>D", []impl.Derived{{Dep: 1, Before: 1, After: 3}, {Dep: 2, Before: 3, After: 7}, {Dep: 3, Before: 7, After: 15}}},
		{4, "C>D A>B B>C", "A>D", []impl.Derived{{Dep: 1, Before: 1, After: 3}, {Dep: 2, Before: 3, After: 7}, {Dep: 0, Before: 7, After: 15}}},
		// it begins again at the first one after each step
		{5, "B>E A>B A>C C>D", "A>D", []impl.Derived{{Dep: 1, Before: 1, After: 3}, {Dep: 0, Before: 3, After: 19}, {Dep: 2, Before: 19, After: 23}, {Dep: 3, Before: 23, After: 31}}},
		// one whose Right is in the set already is passed over, as is the same one again
		{3, "AB>A A>A A>B A>B B>C", "A>C", []impl.Derived{{Dep: 2, Before: 1, After: 3}, {Dep: 4, Before: 3, After: 7}}},
		{2, "A>B A>B", "A>B", []impl.Derived{{Dep: 0, Before: 1, After: 3}}},
		{2, "B>A A>B", "A>B", []impl.Derived{{Dep: 1, Before: 1, After: 3}}},
		// Left is the empty set
		{1, "none>A", "none>A", []impl.Derived{{Dep: 0, Before: 0, After: 1}}},
		{2, "A>B none>A", "none>B", []impl.Derived{{Dep: 1, Before: 0, After: 1}, {Dep: 0, Before: 1, After: 3}}},
		{2, "none>A", "B>A", []impl.Derived{{Dep: 0, Before: 2, After: 3}}},
		// no steps
		{3, "A>B B>C", "AB>B", nil},
		{3, "A>B B>C", "C>C", nil},
		{5, "", "ABCDE>D", nil},
	}
	for _, c := range cases {
		checkImplied(t, c.n, depsIn(c.deps), depsIn(c.d)[0], c.want)
	}
}

// TestDeriveDepByOneStep derives each dependency from itself, alone and at the end of as many as there may be.
func TestDeriveDepByOneStep(t *testing.T) {
	for _, d := range depsOf(5) {
		if hasColumn(d.Left, d.Right) {
			continue
		}
		checkImplied(t, 5, []impl.Dep{d}, d, []impl.Derived{{Dep: 0, Before: d.Left, After: d.Left + 1<<d.Right}})
		full := append(slices.Repeat([]impl.Dep{{Left: 31}}, impl.MaxDeps-1), d)
		checkImplied(t, 5, full, d, []impl.Derived{{Dep: impl.MaxDeps - 1, Before: d.Left, After: d.Left + 1<<d.Right}})
	}
}

// stepsOf writes derivations down as the indices of their dependencies.
func stepsOf(l []impl.Dep, set int, places ...int) []impl.Derived {
	var steps []impl.Derived
	for _, place := range places {
		next := set | 1<<l[place].Right
		steps = append(steps, impl.Derived{Dep: place, Before: set, After: next})
		set = next
	}
	return steps
}

func TestCheckDerivation(t *testing.T) {
	cases := []struct {
		deps, d string
		places  []int
		want    bool
	}{
		{"A>B B>C C>D", "A>D", []int{0, 1, 2}, true},
		// not as far as Right
		{"A>B B>C C>D", "A>D", []int{0, 1}, false},
		{"A>B B>C C>D", "A>D", []int{0}, false},
		{"A>B B>C C>D", "A>D", nil, false},
		// Left is not part of the set
		{"A>B B>C C>D", "A>D", []int{1, 2}, false},
		{"A>B B>C C>D", "A>D", []int{2}, false},
		{"A>B B>C C>D", "A>D", []int{0, 2}, false},
		{"A>B B>C C>D", "A>D", []int{0, 2, 1}, false},
		{"AB>D", "A>D", []int{0}, false},
		{"AB>D", "B>D", []int{0}, false},
		{"AB>D", "none>D", []int{0}, false},
		{"AB>D", "AC>D", []int{0}, false},
		{"AB>D", "AB>D", []int{0}, true},
		// steps that are not needed: before, between and behind
		{"A>B B>C C>D", "A>B", []int{0, 1, 2}, true},
		{"A>B B>C C>D", "AB>C", []int{0, 1, 2}, true},
		{"A>B B>C C>D", "A>D", []int{0, 0, 1, 1, 2, 2}, true},
		{"A>B B>C C>D", "A>D", []int{0, 1, 0, 2, 1, 0}, true},
		{"A>B A>C C>D A>E", "A>D", []int{3, 0, 1, 2}, true},
		{"A>A A>B", "A>B", []int{0, 0, 0, 1}, true},
		{"A>A A>B", "A>A", []int{0, 1}, true},
		{"A>A A>B", "A>A", nil, true},
		// not by the first dependency that there is
		{"A>B A>C C>D", "A>D", []int{1, 2}, true},
		{"A>B A>B", "A>B", []int{1}, true},
		{"A>B A>B", "A>B", []int{1, 0}, true},
		// no steps
		{"", "A>A", nil, true},
		{"", "ABCDE>E", nil, true},
		{"", "A>B", nil, false},
		{"", "none>A", nil, false},
		{"none>A", "none>A", nil, false},
		{"none>A", "none>A", []int{0}, true},
	}
	for _, c := range cases {
		l, d := depsIn(c.deps), depsIn(c.d)[0]
		checkDerivation(t, 5, l, d, stepsOf(l, d.Left, c.places...), c.want)
	}
	// more steps than there are sets or dependencies
	l := depsIn("A>B B>A")
	checkDerivation(t, 2, l, depsIn("A>B")[0], stepsOf(l, 1, slices.Repeat([]int{0, 1}, 1000)...), true)
}

// TestCheckDerivationOfPlaces tries all ways to apply at most three of the dependencies.
func TestCheckDerivationOfPlaces(t *testing.T) {
	for _, text := range []string{"A>B B>C", "B>C A>B none>A", "A>B A>C C>A", "AB>C C>A A>A", "none>C C>B BC>A"} {
		l := depsIn(text)
		ways := [][]int{nil}
		for at := 0; at < len(ways); at++ {
			for _, d := range depsOf(3) {
				steps := stepsOf(l, d.Left, ways[at]...)
				checkDerivation(t, 3, l, d, steps, slowChecked(l, d, steps))
			}
			for place := 0; place < len(l) && len(ways[at]) < 3; place++ {
				ways = append(ways, append(slices.Clone(ways[at]), place))
			}
		}
	}
}

// stepsChanged are derivations that differ from one at one place: a step left out, twice, put in, or with another number in one field.
func stepsChanged(steps []impl.Derived) [][]impl.Derived {
	var all [][]impl.Derived
	for at := range steps {
		all = append(all, slices.Delete(slices.Clone(steps), at, at+1), slices.Insert(slices.Clone(steps), at, steps[at]))
		for number := -1; number <= 33; number++ {
			place, before, after := slices.Clone(steps), slices.Clone(steps), slices.Clone(steps)
			place[at].Dep, before[at].Before, after[at].After = number, number, number
			all = append(all, place, before, after)
		}
		for _, number := range []int{math.MinInt, -64, 64, 1 << 32, math.MaxInt} {
			place, before, after := slices.Clone(steps), slices.Clone(steps), slices.Clone(steps)
			place[at].Dep, before[at].Before, after[at].After = number, number, number
			all = append(all, place, before, after)
		}
	}
	for at := range len(steps) + 1 {
		all = append(all, slices.Insert(slices.Clone(steps), at, impl.Derived{}))
		all = append(all, slices.Insert(slices.Clone(steps), at, impl.Derived{Dep: -1, Before: -1, After: -1}))
	}
	return all
}

// TestCheckDerivationChanged changes derivations in one place. Only another index of the same dependency, or one that leads to the same set, is accepted.
func TestCheckDerivationChanged(t *testing.T) {
	for _, l := range meaningLists() {
		for _, d := range depsOf(5) {
			steps, ok := impl.DeriveDep(5, l, d)
			if !ok {
				continue
			}
			for _, changed := range stepsChanged(steps) {
				checkDerivation(t, 5, l, d, changed, slowChecked(l, d, changed))
			}
		}
	}
	// None of these is accepted.
	l := depsIn("A>B B>C C>D D>E")
	d := depsIn("A>E")[0]
	steps, _ := impl.DeriveDep(5, l, d)
	for _, changed := range stepsChanged(steps) {
		if !slices.Equal(changed, steps) {
			checkDerivation(t, 5, l, d, changed, false)
		}
	}
}

// TestCheckDerivationOfOther holds the derivation of a dependency against another one, and against another list.
func TestCheckDerivationOfOther(t *testing.T) {
	l := depsIn("A>B B>C AC>D D>E")
	for _, d := range depsOf(5) {
		steps, ok := impl.DeriveDep(5, l, d)
		if !ok {
			continue
		}
		for _, e := range depsOf(5) {
			checkDerivation(t, 5, l, e, steps, slowChecked(l, e, steps))
		}
		for length := range l {
			checkDerivation(t, 5, l[:length], d, steps, slowChecked(l[:length], d, steps))
		}
		for _, e := range badDepsOf(5) {
			checkDerivation(t, 5, l, e, steps, false)
			checkDerivation(t, 5, append(slices.Clone(l), e), d, steps, false)
		}
		full := append(slices.Clone(l), make([]impl.Dep, impl.MaxDeps-len(l))...)
		checkDerivation(t, 5, full, d, steps, true)
		checkDerivation(t, 5, append(full, impl.Dep{}), d, steps, false)
		for _, n := range append([]int{0, 1, 2, 3, 4}, badColumnCounts...) {
			checkDerivation(t, n, l, d, steps, false)
		}
	}
}

func TestClosedSets(t *testing.T) {
	cases := []struct {
		n    int
		deps string
		want []int
	}{
		{3, "A>B B>C", []int{0, 4, 6, 7}},
		{3, "B>C A>B", []int{0, 4, 6, 7}},
		{3, "AB>C", []int{0, 1, 2, 4, 5, 6, 7}},
		{2, "A>B B>A", []int{0, 3}},
		{2, "A>B", []int{0, 2, 3}},
		// without the empty set, where it determines a column
		{2, "none>A", []int{1, 3}},
		{2, "none>B", []int{2, 3}},
		{2, "none>A none>B", []int{3}},
		{1, "none>A", []int{1}},
		{5, "none>A A>B B>C C>D D>E", []int{31}},
		// ascending as numbers, not by size
		{4, "A>B C>D", []int{0, 2, 3, 8, 10, 11, 12, 14, 15}},
		{4, "A>B A>C A>D", []int{0, 2, 4, 6, 8, 10, 12, 14, 15}},
		// no dependencies, and trivial ones
		{1, "", []int{0, 1}},
		{2, "", []int{0, 1, 2, 3}},
		{3, "A>A ABC>B", []int{0, 1, 2, 3, 4, 5, 6, 7}},
		{5, "A>B B>C C>D D>E E>A", []int{0, 31}},
	}
	for _, c := range cases {
		checkClosedSets(t, c.n, depsIn(c.deps), c.want)
	}
	for n := 1; n <= impl.MaxColumns; n++ {
		all := make([]int, 1<<n)
		for set := range all {
			all[set] = set
		}
		checkClosedSets(t, n, nil, all)
		checkClosedSets(t, n, []impl.Dep{}, all)
	}
}

// TestClosedSetsAreClosures expects that the closed sets are those that ClosureOf returns unchanged, and all that it returns.
func TestClosedSetsAreClosures(t *testing.T) {
	for _, l := range meaningLists() {
		closed := impl.ClosedSets(5, l)
		var unchanged, returned []int
		for set := range 32 {
			closure := impl.ClosureOf(5, l, set)
			returned = append(returned, closure)
			if closure == set {
				unchanged = append(unchanged, set)
			}
		}
		slices.Sort(returned)
		if !slices.Equal(closed, unchanged) || !slices.Equal(closed, slices.Compact(returned)) {
			t.Fatalf("ClosedSets(5, %v) = %v, but ClosureOf returns %v and leaves %v", l, closed, returned, unchanged)
		}
	}
}

func TestSameMeaning(t *testing.T) {
	cases := []struct {
		n    int
		a, b string
		want bool
	}{
		{3, "A>B B>C", "A>B B>C", true},
		{3, "A>B B>C", "B>C A>B", true},
		{3, "A>B B>C", "A>B B>C A>C", true},
		{3, "A>B B>C", "A>B B>C A>C AB>C A>A", true},
		{3, "A>B B>C A>C", "A>B B>C", true},
		{3, "A>B B>C A>C", "A>B A>C", false},
		{3, "A>B B>C A>C", "B>C A>C", false},
		{3, "A>B B>C", "A>B", false},
		{3, "A>B B>C", "B>C", false},
		{3, "A>B B>C", "", false},
		{3, "A>B", "B>A", false},
		{3, "A>B B>A", "A>B", false},
		{3, "A>B B>C C>A", "A>C C>B B>A", true},
		{2, "none>A", "B>A", false},
		{2, "none>A none>B", "none>A A>B", true},
		{3, "AB>C", "A>C", false},
		{3, "A>C AB>C", "A>C", true},
		{3, "AB>C A>B", "A>C A>B", true},
		// trivial ones, equal ones and none
		{3, "", "A>A AB>B", true},
		{3, "A>B", "A>B A>B A>B", true},
		{3, "", "", true},
		{5, "", "ABCD>E", false},
		// as many closed sets, but others
		{2, "A>B", "none>A", false},
		{3, "A>B", "C>B", false},
		// lists of different columns with the same closed sets in fewer
		{5, "A>B D>E", "A>B", false},
	}
	for _, c := range cases {
		checkSameMeaning(t, c.n, depsIn(c.a), depsIn(c.b), c.want)
	}
	for n := 1; n <= impl.MaxColumns; n++ {
		checkSameMeaning(t, n, nil, []impl.Dep{}, true)
	}
}

// TestSameMeaningOfFewDeps compares all pairs of lists of at most two dependencies.
func TestSameMeaningOfFewDeps(t *testing.T) {
	for n := 1; n <= 2; n++ {
		for _, a := range shortDeps(n, 2) {
			for _, b := range shortDeps(n, 2) {
				want := slices.Equal(slowClosedSets(n, a), slowClosedSets(n, b))
				checkSameMeaning(t, n, a, b, want)
			}
		}
	}
}

// TestSameMeaningOfManyDeps changes the order, adds an implied dependency and one that is not, and leaves one out.
func TestSameMeaningOfManyDeps(t *testing.T) {
	for _, l := range meaningLists() {
		other := slices.Clone(l)
		slices.Reverse(other)
		checkSameMeaning(t, 5, l, other, true)
		for _, d := range depsOf(5) {
			more := append(slices.Clone(l), d)
			checkSameMeaning(t, 5, l, more, len(more) <= 20 && slowImplied(5, l, d))
		}
		for place, d := range l {
			less := slices.Delete(slices.Clone(l), place, place+1)
			checkSameMeaning(t, 5, l, less, slowImplied(5, less, d))
		}
	}
}

// TestSameMeaningInvalid has one list that is not valid, or both.
func TestSameMeaningInvalid(t *testing.T) {
	for n := 1; n <= impl.MaxColumns; n++ {
		bad := badLists(n)
		for at, a := range bad {
			for _, b := range [][]impl.Dep{nil, {{}}, {{Left: 1<<n - 1}}, a, bad[len(bad)-1-at]} {
				checkSameMeaning(t, n, a, b, false)
			}
		}
	}
}

// spareDeps is a copy of a list with marked unused capacity.
func spareDeps(l []impl.Dep) []impl.Dep {
	wide := append(make([]impl.Dep, 0, len(l)+3), l...)
	for len(wide) < cap(wide) {
		wide = append(wide, impl.Dep{Left: spare, Right: spare})
	}
	return wide[:len(l)]
}

func spareSteps(steps []impl.Derived) []impl.Derived {
	wide := append(make([]impl.Derived, 0, len(steps)+3), steps...)
	for len(wide) < cap(wide) {
		wide = append(wide, impl.Derived{Dep: spare, Before: spare, After: spare})
	}
	return wide[:len(steps)]
}

func spoilSteps(steps []impl.Derived) {
	steps = steps[:cap(steps)]
	for i := range steps {
		steps[i] = impl.Derived{Dep: -99, Before: -99, After: -99}
	}
}

// TestClosureArgumentsStay compares lists, with their unused capacity, before and after the calls, and after their results were overwritten.
func TestClosureArgumentsStay(t *testing.T) {
	lists := append(meaningLists(), badLists(5)...)
	for _, l := range append(lists, badLists(3)...) {
		a, b := spareDeps(l), spareDeps(l)
		before := slices.Clone(a[:cap(a)])
		for n := -1; n <= 6; n++ {
			impl.AreDeps(n, a)
			impl.SameMeaning(n, a, b)
			spoilRow(impl.ClosedSets(n, a))
			for set := -1; set <= 32; set++ {
				impl.ClosureOf(n, a, set)
				for right := -1; right <= 5; right += 2 {
					d := impl.Dep{Left: set, Right: right}
					impl.ImpliesDep(n, a, d)
					steps, _ := impl.DeriveDep(n, a, d)
					given := spareSteps(steps)
					spoilSteps(steps)
					whole := slices.Clone(given[:cap(given)])
					impl.CheckDerivation(n, a, d, given)
					if !slices.Equal(given[:cap(given)], whole) {
						t.Fatalf("%v became %v", whole, given[:cap(given)])
					}
				}
			}
		}
		if !slices.Equal(a[:cap(a)], before) || !slices.Equal(b[:cap(b)], before) {
			t.Fatalf("%v became %v and %v", before, a[:cap(a)], b[:cap(b)])
		}
	}
}

// TestClosureOfUnusedCapacity has dependencies and steps behind the end of the list, within its capacity.
func TestClosureOfUnusedCapacity(t *testing.T) {
	l := depsIn("A>B B>C C>D")
	checkClosure(t, 4, l[:1], 1, 3)
	checkClosure(t, 4, l[:2], 1, 7)
	checkNotImplied(t, 4, l[:2], depsIn("A>D")[0])
	checkClosedSets(t, 2, l[:1], []int{0, 2, 3})
	checkSameMeaning(t, 4, l[:2], l, false)
	steps := stepsOf(l, 1, 0, 1, 2)
	checkDerivation(t, 4, l, depsIn("A>D")[0], steps[:2], false)
	checkDerivation(t, 4, l[:2], depsIn("A>D")[0], steps, false)
	checkDerivation(t, 4, l[:2], depsIn("A>C")[0], steps[:2], true)
	many := make([]impl.Dep, impl.MaxDeps+1)
	checkAreDeps(t, 1, many[:impl.MaxDeps], true)
	checkAreDeps(t, 1, many, false)
}

// TestClosureResultsAreNewMemory changes one result before the next one, and an argument after the call.
func TestClosureResultsAreNewMemory(t *testing.T) {
	for _, l := range meaningLists() {
		checkNewMemory(t, func() []int { return impl.ClosedSets(5, l) })
		for _, d := range depsOf(5) {
			checkNewMemory(t, func() []impl.Derived {
				steps, _ := impl.DeriveDep(5, l, d)
				return steps
			})
		}
		a := spareDeps(l)
		closed := impl.ClosedSets(5, a)
		steps, _ := impl.DeriveDep(5, a, impl.Dep{Left: 1, Right: 3})
		want := slices.Clone(steps)
		spoilDeps(a)
		if !slices.Equal(closed, slowClosedSets(5, l)) || !slices.Equal(steps, want) {
			t.Fatalf("%v and %v after a change of the argument", closed, steps)
		}
	}
}

// TestClosureEveryTime makes the same calls many times.
func TestClosureEveryTime(t *testing.T) {
	l := depsIn("C>D A>B B>C none>E")
	for range 1000 {
		checkClosure(t, 5, l, 1, 31)
		checkClosedSets(t, 5, l, []int{16, 24, 28, 30, 31})
		checkImplied(t, 5, l, depsIn("A>D")[0], stepsOf(l, 1, 1, 2, 0))
		checkNotImplied(t, 5, l, depsIn("BE>A")[0])
		checkSameMeaning(t, 5, l, depsIn("none>E A>B B>C C>D A>D"), true)
	}
}
