package tests

import (
	"math/rand"
	"slices"
	"testing"

	"loop.example/g01988/impl"
)

// Promise 9: schemas are in the stated normal form and preserving as stated.

// slowPartKeys are the smallest parts of a set whose closure contains it.
func slowPartKeys(closures []int, set int) []int {
	var all []int
	for _, part := range append(smallerParts(set), set) {
		if closures[part]&set == set {
			all = append(all, part)
		}
	}
	return slowMinimal(all)
}

// slowAgainst are the dependencies within a set whose Left does not determine it.
func slowAgainst(n int, closures []int, set int) []impl.Dep {
	return slices.DeleteFunc(slowProjected(n, closures, set), func(d impl.Dep) bool {
		return closures[d.Left]&set == set
	})
}

func slowIsBoyce(n int, closures []int, set int) bool {
	return len(slowAgainst(n, closures, set)) == 0
}

func slowIsThird(n int, closures []int, set int) bool {
	prime := columnsOf(slowPartKeys(closures, set))
	return !slices.ContainsFunc(slowAgainst(n, closures, set), func(d impl.Dep) bool { return !hasColumn(prime, d.Right) })
}

// slowDivided has a list of sets that still have to be looked at.
func slowDivided(n int, closures []int) []int {
	var done []int
	for open := []int{1<<n - 1}; len(open) > 0; {
		set := open[len(open)-1]
		open = open[:len(open)-1]
		against := slowAgainst(n, closures, set)
		if len(against) == 0 {
			done = append(done, set)
			continue
		}
		inside, outside := 0, against[0].Left
		for column := range n {
			if hasColumn(set, column) && hasColumn(closures[against[0].Left], column) {
				inside |= 1 << column
			} else if hasColumn(set, column) {
				outside |= 1 << column
			}
		}
		open = append(open, inside, outside)
	}
	return slowMaximal(done)
}

// slowSynthesized collects the columns for each left side of the cover.
func slowSynthesized(n int, l []impl.Dep) []int {
	columns := map[int]int{}
	for _, d := range slowCoverOf(n, l) {
		columns[d.Left] |= d.Left | 1<<d.Right
	}
	var sets []int
	for _, set := range columns {
		sets = append(sets, set)
	}
	keys := slowKeys(n, l)
	if !slices.ContainsFunc(sets, func(set int) bool { return containsOne(set, keys) }) {
		sets = append(sets, keys[0])
	}
	return slowMaximal(sets)
}

// slowTogether are the dependencies within all parts.
func slowTogether(n int, closures []int, parts []int) []impl.Dep {
	var all []impl.Dep
	for _, part := range parts {
		all = append(all, slowProjected(n, closures, part)...)
	}
	return all
}

func slowPreserving(n int, l []impl.Dep, parts []int) bool {
	together := slowTogether(n, slowClosures(n, l), parts)
	return !slices.ContainsFunc(l, func(d impl.Dep) bool { return !slowImplied(n, together, d) })
}

// checkForms expects that a set is in these forms.
func checkForms(t *testing.T, n int, l []impl.Dep, set int, boyce, third bool) {
	t.Helper()
	if got := impl.IsBoyce(n, l, set); got != boyce {
		t.Fatalf("IsBoyce(%d, %v, %d) = %v, want %v", n, l, set, got, boyce)
	}
	if got := impl.IsThird(n, l, set); got != third {
		t.Fatalf("IsThird(%d, %v, %d) = %v, want %v", n, l, set, got, third)
	}
}

func checkDecomposed(t *testing.T, n int, l []impl.Dep, want []int) {
	t.Helper()
	if got := impl.DecomposeBoyce(n, l); !slices.Equal(got, want) {
		t.Fatalf("DecomposeBoyce(%d, %v) = %v, want %v", n, l, got, want)
	}
}

func checkSynthesized(t *testing.T, n int, l []impl.Dep, want []int) {
	t.Helper()
	if got := impl.SynthesizeThird(n, l); !slices.Equal(got, want) {
		t.Fatalf("SynthesizeThird(%d, %v) = %v, want %v", n, l, got, want)
	}
}

func checkPreserving(t *testing.T, n int, l []impl.Dep, parts []int, want bool) {
	t.Helper()
	if got := impl.IsPreserving(n, l, parts); got != want {
		t.Fatalf("IsPreserving(%d, %v, %v) = %v, want %v", n, l, parts, got, want)
	}
}

// checkSchema expects of sets that they hold every column, are ascending, none is a part of another one, and all are in a form.
func checkSchema(t *testing.T, n int, l []impl.Dep, sets []int, isInForm func(n int, l []impl.Dep, set int) bool) {
	t.Helper()
	if len(sets) == 0 || columnsOf(sets) != 1<<n-1 || !slices.Equal(sets, slowMaximal(sets)) || !slices.Equal(sets, impl.MaximalSets(sets)) {
		t.Fatalf("%v is no schema of %d columns with %v", sets, n, l)
	}
	for _, set := range sets {
		if !isInForm(n, l, set) {
			t.Fatalf("%d of %v is not in the form, with %v", set, sets, l)
		}
	}
}

// checkFormsOfSets compares the forms of all sets with their words, and with each other.
func checkFormsOfSets(t *testing.T, n int, l []impl.Dep) {
	t.Helper()
	closures := slowClosures(n, l)
	for set := -1; set <= 32; set++ {
		if set < 0 || set >= 1<<n {
			checkForms(t, n, l, set, false, false)
			continue
		}
		boyce, third := slowIsBoyce(n, closures, set), slowIsThird(n, closures, set)
		if boyce && !third {
			t.Fatalf("%d is in the form of Boyce and Codd, but not in third normal form, with %v", set, l)
		}
		checkForms(t, n, l, set, boyce, third)
	}
}

// checkNormal compares all functions with the words of the chapter, for a valid list.
func checkNormal(t *testing.T, n int, l []impl.Dep) {
	t.Helper()
	checkFormsOfSets(t, n, l)
	closures := slowClosures(n, l)
	divided, synthesized := slowDivided(n, closures), slowSynthesized(n, l)
	checkDecomposed(t, n, l, divided)
	checkSchema(t, n, l, divided, impl.IsBoyce)
	if impl.IsBoyce(n, l, 1<<n-1) && !slices.Equal(divided, []int{1<<n - 1}) {
		t.Fatalf("the set of all columns is divided into %v, with %v", divided, l)
	}
	checkPreserving(t, n, l, divided, slowPreserving(n, l, divided))
	checkSynthesized(t, n, l, synthesized)
	checkSchema(t, n, l, synthesized, impl.IsThird)
	checkPreserving(t, n, l, synthesized, true)
	keys := impl.KeysOf(n, l)
	if !slices.ContainsFunc(synthesized, func(set int) bool { return containsOne(set, keys) }) {
		t.Fatalf("%v contain no key of %v, with %v", synthesized, keys, l)
	}
}

// checkNotNormal expects the results for lists that are not valid.
func checkNotNormal(t *testing.T, n int, l []impl.Dep) {
	t.Helper()
	for set := -1; set <= 32; set++ {
		checkForms(t, n, l, set, false, false)
	}
	checkDecomposed(t, n, l, nil)
	checkSynthesized(t, n, l, nil)
	for _, parts := range [][]int{nil, {}, {0}, {1}, {3}, {31}, {1, 2, 3}, {31, 31}, {-1}} {
		checkPreserving(t, n, l, parts, false)
	}
}

func TestNormalOfFewDeps(t *testing.T) {
	checkFewDeps(t, checkNormal)
}

func TestNormalOfManyDeps(t *testing.T) {
	checkManyDeps(t, 31, checkNormal)
}

// TestNormalOfFewOfManyColumns has lists of few dependencies over five columns, of which most sets are in no normal form.
func TestNormalOfFewOfManyColumns(t *testing.T) {
	r := rand.New(rand.NewSource(32))
	for range 1000 {
		checkNormal(t, impl.MaxColumns, longDeps(r, impl.MaxColumns, 1+r.Intn(6)))
	}
}

// TestNormalOfNoDeps has dependencies that are not valid at every place of a list, too many, and no number of columns.
func TestNormalOfNoDeps(t *testing.T) {
	checkBadDeps(t, checkNotNormal)
	checkNormal(t, 4, depsIn("A>B AB>C D>A"))
}

// TestNormalOfEmptyList has no dependencies: the set of all columns is in every form.
func TestNormalOfEmptyList(t *testing.T) {
	for n := -1; n <= impl.MaxColumns+1; n++ {
		for _, l := range [][]impl.Dep{nil, {}, depsIn("A>B B>C")[:0]} {
			if n < 1 || n > 5 {
				checkNotNormal(t, n, l)
				continue
			}
			checkNormal(t, n, l)
			checkDecomposed(t, n, l, []int{1<<n - 1})
			checkSynthesized(t, n, l, []int{1<<n - 1})
			for set := range 1 << n {
				checkForms(t, n, l, set, true, true)
				checkPreserving(t, n, l, []int{set}, true)
			}
			checkPreserving(t, n, l, nil, true)
			checkPreserving(t, n, l, []int{}, true)
		}
	}
}

// TestNormalOfOneColumn has every list over one column that differs in its meaning, and longer ones.
func TestNormalOfOneColumn(t *testing.T) {
	for _, text := range []string{"", "A>A", "none>A", "none>A A>A", "A>A none>A", "A>A A>A A>A"} {
		l := depsIn(text)
		checkNormal(t, 1, l)
		checkDecomposed(t, 1, l, []int{1})
		checkSynthesized(t, 1, l, []int{1})
		checkForms(t, 1, l, 0, true, true)
		checkForms(t, 1, l, 1, true, true)
		checkForms(t, 1, l, 2, false, false)
		checkForms(t, 1, l, -1, false, false)
		checkPreserving(t, 1, l, []int{1}, true)
		checkPreserving(t, 1, l, []int{0, 1, 0}, true)
		needed := text != "" && !slices.Equal(slowClosures(1, l), []int{0, 1})
		checkPreserving(t, 1, l, nil, !needed)
		checkPreserving(t, 1, l, []int{0}, !needed)
		checkPreserving(t, 1, l, []int{0, 0}, !needed)
		checkPreserving(t, 1, l, []int{2}, false)
		checkPreserving(t, 1, l, []int{1, 2}, false)
	}
	full := slices.Repeat(depsIn("none>A"), impl.MaxDeps)
	checkNormal(t, 1, full)
	checkNotNormal(t, 1, append(full, impl.Dep{}))
}

func TestForms(t *testing.T) {
	cases := []struct {
		n            int
		deps         string
		set          int
		boyce, third bool
	}{
		{3, "A>B B>C", 7, false, false},
		{3, "A>B B>C", 3, true, true},
		{3, "A>B B>C", 6, true, true},
		{3, "A>B B>C", 5, true, true},
		{3, "A>B B>C", 0, true, true},
		{3, "A>B B>C", 8, false, false},
		{3, "A>B B>C", -1, false, false},
		// Right is in a key, but Left determines too little
		{3, "AB>C C>B", 7, false, true},
		{3, "AB>C C>A", 7, false, true},
		{3, "BC>A A>B", 7, false, true},
		{3, "A>B B>A", 7, false, true},
		{4, "AB>C C>B", 15, false, true},
		{4, "AB>C BC>D D>A", 15, false, true},
		{4, "AB>C C>B A>D", 15, false, false},
		{4, "A>B B>A A>C", 15, false, false},
		// Right is in the second key alone
		{3, "A>B BC>A", 7, false, true},
		{3, "C>A AB>C", 7, false, true},
		// Right is in a key of the set, but in none of all columns
		{4, "D>A AB>C C>B", 7, false, true},
		{4, "D>A D>B D>C AB>C C>B", 7, false, true},
		{4, "D>A D>B D>C AB>C C>B", 15, false, false},
		{5, "E>A E>D AB>C C>B", 7, false, true},
		{5, "E>A E>B E>C E>D AB>C C>B", 7, false, true},
		{5, "E>A E>B E>C E>D AB>C C>B", 31, false, false},
		// Right is in a key of all columns, but in none of the set
		{4, "A>B BD>A", 7, false, false},
		{4, "A>B BD>A", 15, false, true},
		// Left determines the whole set, but not all columns
		{3, "A>B", 3, true, true},
		{3, "A>B", 7, false, false},
		{5, "A>B B>C C>D", 12, true, true},
		{5, "A>B A>C A>D", 15, true, true},
		{5, "A>B A>C A>D", 31, false, false},
		// through columns outside the set
		{4, "A>D D>B", 7, false, false},
		{4, "A>D D>B", 3, true, true},
		{4, "A>D D>B D>C", 7, true, true},
		{5, "A>D D>B C>E E>A", 7, false, false},
		{5, "AB>D D>C C>E E>B", 7, false, true},
		// partial and transitive
		{4, "AB>C A>D", 15, false, false},
		{4, "A>B B>C C>D", 14, false, false},
		{4, "A>B B>C C>D", 13, false, false},
		{4, "A>B B>C C>D", 9, true, true},
		{4, "AB>C AB>D", 15, true, true},
		{4, "A>B A>C A>D B>A", 15, true, true},
		// Left is the empty set
		{2, "none>A", 3, false, false},
		{2, "none>A", 1, true, true},
		{2, "none>A", 2, true, true},
		{2, "none>A none>B", 3, true, true},
		{3, "none>A A>B", 3, true, true},
		{3, "none>A A>B", 7, false, false},
		{3, "none>A A>B", 5, false, false},
		{3, "none>A A>B", 4, true, true},
		// what implies itself says nothing
		{3, "A>A AB>B", 7, true, true},
		{3, "ABC>A", 7, true, true},
		{2, "A>B AB>A", 3, true, true},
	}
	for _, c := range cases {
		l := depsIn(c.deps)
		checkForms(t, c.n, l, c.set, c.boyce, c.third)
		checkForms(t, c.n, append(l, l...), c.set, c.boyce, c.third)
	}
}

// TestFormsOfSets has the empty set, sets of one column, numbers beyond the first n columns, and others that are no sets.
func TestFormsOfSets(t *testing.T) {
	for n := 1; n <= impl.MaxColumns; n++ {
		all := make([]impl.Dep, n)
		for right := range all {
			all[right].Right = right
		}
		for _, l := range [][]impl.Dep{nil, {{}}, {{Left: 1<<n - 1}}, {{Left: 1, Right: n - 1}}, all} {
			checkFormsOfSets(t, n, l)
			checkForms(t, n, l, 0, true, true)
			for column := range n {
				checkForms(t, n, l, 1<<column, true, true)
			}
			for _, far := range farSets(n) {
				checkForms(t, n, l, far, false, false)
			}
		}
	}
}

func TestDecomposeBoyce(t *testing.T) {
	cases := []struct {
		n    int
		deps string
		want []int
	}{
		{3, "A>B B>C", []int{3, 6}},
		{3, "B>C A>B", []int{3, 6}},
		{3, "AB>C C>B", []int{5, 6}},
		{4, "A>B C>D", []int{3, 5, 12}},
		{5, "A>B B>C C>D D>E", []int{3, 6, 12, 24}},
		{5, "A>C AC>E DE>B", []int{9, 21, 26}},
		// in the form already
		{3, "A>B A>C", []int{7}},
		{3, "A>B B>C C>A", []int{7}},
		{2, "A>B", []int{3}},
		{4, "AB>C AB>D", []int{15}},
		{5, "ABCD>E", []int{31}},
		{3, "A>A AB>B", []int{7}},
		{2, "none>A none>B", []int{3}},
		// the first of ProjectDeps divides, not the first or the last of the list
		{3, "A>B B>A", []int{3, 6}},
		{3, "B>A A>B", []int{3, 6}},
		{3, "A>C C>A", []int{5, 6}},
		{3, "C>A A>C", []int{5, 6}},
		{3, "A>B C>B", []int{3, 5}},
		{3, "C>B A>B", []int{3, 5}},
		{4, "BC>D A>B", []int{3, 13}},
		{4, "A>B BC>A", []int{3, 5, 14}},
		{4, "A>C CD>B", []int{5, 9, 14}},
		{4, "AB>C C>A", []int{5, 14}},
		{4, "AB>C D>C", []int{11, 12}},
		// the first one alone: smaller left sides come first
		{4, "CD>B A>B", []int{3, 13}},
		// the first one that shows it: one before it determines all columns
		{3, "B>A A>C B>C", []int{3, 5}},
		{4, "D>A D>B D>C B>C A>B", []int{3, 6, 9}},
		// one of the results is a part of another one
		{5, "CD>B A>C", []int{5, 14, 25}},
		{5, "DE>B C>E", []int{13, 20, 26}},
		// Left is the empty set
		{2, "none>A", []int{1, 2}},
		{3, "none>B", []int{2, 5}},
		{3, "none>A A>C", []int{2, 5}},
		{3, "none>A B>C", []int{1, 6}},
		{5, "none>A none>E B>C C>D", []int{6, 12, 17}},
	}
	for _, c := range cases {
		checkDecomposed(t, c.n, depsIn(c.deps), c.want)
		checkNormal(t, c.n, depsIn(c.deps))
	}
}

// TestDecomposeBoyceOfAnyOrder has lists in other orders, and longer ones of the same meaning.
func TestDecomposeBoyceOfAnyOrder(t *testing.T) {
	for _, l := range meaningLists() {
		want := impl.DecomposeBoyce(5, l)
		other := slices.Clone(l)
		slices.Reverse(other)
		checkDecomposed(t, 5, other, want)
		checkDecomposed(t, 5, impl.CoverOf(5, l), want)
		if within := impl.ProjectDeps(5, l, 31); len(within) <= impl.MaxDeps {
			checkDecomposed(t, 5, within, want)
		}
	}
}

func TestSynthesizeThird(t *testing.T) {
	cases := []struct {
		n    int
		deps string
		want []int
	}{
		{3, "A>B B>C", []int{3, 6}},
		{3, "A>B B>C A>C", []int{3, 6}},
		{3, "AB>C C>B", []int{7}},
		// the same Left, side by side or not
		{4, "A>B A>C C>D", []int{7, 12}},
		{4, "A>B C>D A>C", []int{7, 12}},
		{5, "A>E A>C A>B B>D", []int{10, 23}},
		{5, "AB>C AB>D AB>E", []int{31}},
		{5, "AB>C E>A AB>D", []int{15, 17, 18}},
		// a key has to be added
		{4, "A>B", []int{3, 13}},
		{4, "A>B C>D", []int{3, 5, 12}},
		{5, "A>B A>C", []int{7, 25}},
		{4, "none>A", []int{1, 14}},
		{4, "none>A none>B", []int{3, 12}},
		// the first one of several keys
		{3, "A>B B>A", []int{3, 5}},
		{3, "B>C C>B", []int{3, 6}},
		{4, "A>B B>A C>D D>C", []int{3, 5, 12}},
		{5, "D>E E>D A>B B>A", []int{3, 13, 24}},
		// a key is there, as a whole set or as a part of one; it is the first one or another one
		{2, "A>B", []int{3}},
		{4, "A>B BC>D AC>A", []int{3, 5, 14}},
		{4, "ABC>D", []int{15}},
		{3, "A>B BC>A", []int{7}},
		{4, "AD>B BD>A B>C", []int{6, 11}},
		{4, "BD>C C>A AD>B", []int{5, 11, 14}},
		{3, "A>B B>C C>A", []int{3, 5, 6}},
		{2, "none>A none>B", []int{3}},
		{3, "none>A A>B A>C", []int{7}},
		// a set is a part of another one
		{3, "A>B BC>A", []int{7}},
		{3, "BC>A A>B", []int{7}},
		{4, "C>A AB>C CD>B", []int{7, 14}},
		{2, "A>B B>A", []int{3}},
		// Left is reduced, and what is implied is left out
		{4, "A>B ABC>D", []int{3, 13}},
		{3, "A>B AB>C", []int{7}},
		{3, "A>C A>B B>C", []int{3, 6}},
		// no dependencies, or only some that imply themselves
		{1, "", []int{1}},
		{3, "", []int{7}},
		{5, "", []int{31}},
		{3, "A>A AB>B ABC>C", []int{7}},
	}
	for _, c := range cases {
		checkSynthesized(t, c.n, depsIn(c.deps), c.want)
		checkNormal(t, c.n, depsIn(c.deps))
	}
}

// TestSynthesizeThirdOfManyDeps has a list of which all are needed, and more sets than dependencies of one left side.
func TestSynthesizeThirdOfManyDeps(t *testing.T) {
	var l []impl.Dep
	for _, left := range levelOf(5, 3) {
		for right := range 5 {
			if !hasColumn(left, right) {
				l = append(l, impl.Dep{Left: left, Right: right})
			}
		}
	}
	checkSynthesized(t, 5, l, []int{31})
	checkNormal(t, 5, l)
	checkNotNormal(t, 5, append(l, l[0]))
	l = depsIn("AB>C BC>D CD>E DE>A AE>B")
	checkSynthesized(t, 5, l, []int{7, 14, 19, 25, 28})
	checkNormal(t, 5, l)
}

// TestNormalOfAsManyDeps has as many dependencies as there may be, and one more.
func TestNormalOfAsManyDeps(t *testing.T) {
	for _, d := range depsIn("A>B none>E ABCD>E ABC>C") {
		full := slices.Repeat([]impl.Dep{d}, impl.MaxDeps)
		checkNormal(t, 5, full)
		checkDecomposed(t, 5, full, slowDivided(5, slowClosures(5, []impl.Dep{d})))
		checkSynthesized(t, 5, full, slowSynthesized(5, []impl.Dep{d}))
		for set := range 32 {
			checkPreserving(t, 5, full, []int{set}, hasColumn(d.Left, d.Right) || set&(d.Left|1<<d.Right) == d.Left|1<<d.Right)
		}
		checkNotNormal(t, 5, append(full, d))
	}
}

func TestIsPreserving(t *testing.T) {
	cases := []struct {
		n     int
		deps  string
		parts []int
		want  bool
	}{
		{3, "A>B B>C", []int{3, 6}, true},
		{3, "A>B B>C", []int{6, 3}, true},
		{3, "A>B B>C", []int{3, 5}, false},
		{3, "A>B B>C", []int{5, 6}, false},
		{3, "A>B B>C", []int{3}, false},
		{3, "A>B B>C", []int{6}, false},
		{3, "A>B B>C", []int{7}, true},
		{3, "AB>C C>B", []int{5, 6}, false},
		{3, "AB>C C>B", []int{7, 5}, true},
		// no dependency of the list is within a part, but all are implied
		{3, "A>B B>C A>C", []int{3, 6}, true},
		{3, "A>B B>C C>A", []int{3, 6}, true},
		{3, "A>B B>C C>A", []int{3, 5}, true},
		{3, "A>B B>C C>A", []int{5, 6}, true},
		{3, "A>B B>C C>A", []int{5}, false},
		{4, "A>B B>C C>D D>A", []int{3, 6, 12}, true},
		{4, "A>B B>C C>D D>A", []int{3, 12}, false},
		{4, "A>C C>B B>A A>D", []int{3, 6, 12}, true},
		{4, "AB>C C>D D>A", []int{7, 12, 9}, true},
		{5, "A>E E>B", []int{3, 18, 17}, true},
		// through columns that are in no part
		{3, "A>C C>B", []int{3}, false},
		{4, "A>D D>B A>B", []int{3}, false},
		// every dependency counts
		{5, "A>B B>C C>D D>E", []int{3, 6, 12, 24}, true},
		{5, "A>B B>C C>D D>E", []int{3, 6, 12}, false},
		{5, "A>B B>C C>D D>E", []int{3, 6, 24}, false},
		{5, "A>B B>C C>D D>E", []int{3, 12, 24}, false},
		{5, "A>B B>C C>D D>E", []int{6, 12, 24}, false},
		// no parts and empty ones
		{3, "", nil, true},
		{3, "", []int{}, true},
		{3, "", []int{0}, true},
		{3, "A>A ABC>B", nil, true},
		{3, "A>A ABC>B", []int{0, 0}, true},
		{3, "A>B", nil, false},
		{3, "A>B", []int{0}, false},
		{3, "A>B", []int{0, 3}, true},
		{3, "A>B", []int{3, 0}, true},
		{3, "A>A A>B", nil, false},
		{3, "none>A", nil, false},
		{3, "none>A", []int{0}, false},
		{3, "none>A", []int{1}, true},
		{3, "none>A", []int{2}, false},
		{3, "none>A A>B", []int{1, 2}, true},
		{3, "none>A AB>C", []int{5}, false},
		{3, "none>A AB>C", []int{1, 6}, true},
		// the same part twice, and one in another one
		{3, "A>B B>C", []int{3, 3, 6, 6}, true},
		{3, "A>B B>C", []int{3, 3}, false},
		{3, "A>B B>C", []int{1, 3, 7, 6, 2}, true},
		{3, "A>B B>C", []int{1, 3, 2}, false},
		{3, "A>B B>C", []int{1, 2, 4}, false},
		// parts that do not hold every column
		{5, "A>B", []int{3}, true},
		{5, "", []int{1}, true},
		// no sets of the first n columns
		{3, "A>B B>C", []int{3, 6, 8}, false},
		{3, "A>B B>C", []int{-1}, false},
		{3, "A>B B>C", []int{15}, false},
		{3, "", []int{8}, false},
		{3, "", []int{-1}, false},
	}
	for _, c := range cases {
		checkPreserving(t, c.n, depsIn(c.deps), c.parts, c.want)
	}
}

// TestIsPreservingOfFewParts has all lists of at most two parts for short lists of dependencies.
func TestIsPreservingOfFewParts(t *testing.T) {
	for n := 1; n <= 3; n++ {
		for _, l := range shortDeps(n, 2) {
			closures := slowClosures(n, l)
			for _, parts := range shortLists(n, 2) {
				together := slowTogether(n, closures, parts)
				want := !slices.ContainsFunc(l, func(d impl.Dep) bool { return !impl.ImpliesDep(n, together, d) })
				checkPreserving(t, n, l, parts, want)
			}
		}
	}
}

// TestIsPreservingOfManyParts asks ImpliesDep where there are not too many dependencies within the parts, and every closed set where there are.
func TestIsPreservingOfManyParts(t *testing.T) {
	r := rand.New(rand.NewSource(33))
	few, many := [2]int{}, [2]int{}
	for _, l := range meaningLists() {
		for range 60 {
			parts := slices.Repeat(longList(r, 5, r.Intn(12)), 1+r.Intn(4))
			var together []impl.Dep
			for _, part := range parts {
				together = append(together, impl.ProjectDeps(5, l, part)...)
			}
			want := slowPreserving(5, l, parts)
			counted, at := &many, 0
			if len(together) <= impl.MaxDeps {
				counted = &few
				want = !slices.ContainsFunc(l, func(d impl.Dep) bool { return !impl.ImpliesDep(5, together, d) })
			}
			if want {
				at = 1
			}
			counted[at]++
			checkPreserving(t, 5, l, parts, want)
		}
	}
	if min(few[0], few[1], many[0], many[1]) < 20 {
		t.Fatalf("%v and %v are too few of one kind", few, many)
	}
}

// TestIsPreservingOfMoreThanMaxDeps has parts whose dependencies are too many for one list, but not for their closures.
func TestIsPreservingOfMoreThanMaxDeps(t *testing.T) {
	all := make([]int, 32)
	for set := range all {
		all[set] = set
	}
	circle := depsIn("A>B B>C C>D D>E E>A")
	cases := []struct {
		deps  []impl.Dep
		parts []int
		least int
		want  bool
	}{
		{circle, []int{31}, 20, true},
		{circle, []int{31, 31}, 40, true},
		{circle, []int{31, 3}, 22, true},
		{circle, all, 21, true},
		{circle, []int{15, 23, 27}, 36, true},
		{circle, []int{15, 14, 13}, 24, false},
		{circle, []int{15, 7, 11, 13, 14, 16}, 36, false},
		{levelCover(5, 3), []int{31}, 20, true},
		{levelCover(5, 2)[:20], []int{31}, 21, true},
		{levelCover(5, 3), []int{15, 23, 27, 29, 30, 15}, 20, true},
		{levelCover(5, 3)[:19], []int{31, 15}, 20, true},
	}
	for _, c := range cases {
		count := 0
		for _, part := range c.parts {
			count += len(impl.ProjectDeps(5, c.deps, part))
		}
		if count < c.least || slowPreserving(5, c.deps, c.parts) != c.want {
			t.Fatalf("%v and %v have %d dependencies within the parts", c.deps, c.parts, count)
		}
		checkPreserving(t, 5, c.deps, c.parts, c.want)
	}
}

// TestIsPreservingOfAnyLength has lists of parts that are longer than those of which MaximalSets are asked for.
func TestIsPreservingOfAnyLength(t *testing.T) {
	l := depsIn("A>B B>C")
	for _, length := range []int{10, 11, 31, 32, 33, 99, 100, 101, 1000, 100000} {
		for _, part := range []int{0, 3, 5} {
			parts := slices.Repeat([]int{part}, length)
			checkPreserving(t, 3, l, parts, false)
			checkPreserving(t, 3, l, append(parts, 6), part == 3)
			checkPreserving(t, 3, l, append(parts, 3, 6), true)
			checkPreserving(t, 3, l, append(parts, 3, 6, 8), false)
			checkPreserving(t, 3, l, append([]int{-1, 3, 6}, parts...), false)
			checkPreserving(t, 3, nil, parts, true)
		}
	}
}

// TestIsPreservingOfNoParts has parts that are no sets of the first n columns at every place of a list.
func TestIsPreservingOfNoParts(t *testing.T) {
	for n := 1; n <= impl.MaxColumns; n++ {
		for _, l := range [][]impl.Dep{nil, {}, {{}}, {{Left: 1<<n - 1}}, {{Right: n - 1}}} {
			whole := []int{0, 1<<n - 1, 1}
			checkPreserving(t, n, l, whole, true)
			for _, bad := range farSets(n) {
				checkPreserving(t, n, l, []int{bad}, false)
				for place := range 4 {
					checkPreserving(t, n, l, slices.Insert(slices.Clone(whole), place, bad), false)
				}
			}
		}
	}
}

// TestNormalArgumentsStay compares lists, with their unused capacity, before and after the calls, and after their results were overwritten.
func TestNormalArgumentsStay(t *testing.T) {
	lists := append(meaningLists(), badLists(5)...)
	for _, l := range append(lists, badLists(3)...) {
		a := spareDeps(l)
		before := slices.Clone(a[:cap(a)])
		for n := -1; n <= 6; n++ {
			spoilRow(impl.DecomposeBoyce(n, a))
			spoilRow(impl.SynthesizeThird(n, a))
			for set := -1; set <= 32; set++ {
				impl.IsBoyce(n, a, set)
				impl.IsThird(n, a, set)
			}
			for _, parts := range [][]int{nil, {3, 6, 0, 3}, {31, 5}, {6, 3, 32}, {-1, 3}} {
				b := spareRow(parts)
				whole := slices.Clone(b[:cap(b)])
				impl.IsPreserving(n, a, b)
				if !slices.Equal(b[:cap(b)], whole) {
					t.Fatalf("%v became %v", whole, b[:cap(b)])
				}
			}
		}
		if !slices.Equal(a[:cap(a)], before) {
			t.Fatalf("%v became %v", before, a[:cap(a)])
		}
	}
}

// TestNormalOfUnusedCapacity has dependencies and parts behind the end of the list, within its capacity.
func TestNormalOfUnusedCapacity(t *testing.T) {
	l := depsIn("A>B B>C C>A A>D")
	checkForms(t, 3, l[:2], 7, false, false)
	checkForms(t, 3, l[:3], 7, true, true)
	checkDecomposed(t, 3, l[:2], []int{3, 6})
	checkDecomposed(t, 3, l[:0], []int{7})
	checkSynthesized(t, 3, l[:1], []int{3, 5})
	checkSynthesized(t, 3, l[:2], []int{3, 6})
	parts := []int{3, 6, 8}
	checkPreserving(t, 3, l[:2], parts[:2], true)
	checkPreserving(t, 3, l[:2], parts[:1], false)
	checkPreserving(t, 3, l[:1], parts[:1], true)
	many := slices.Repeat(depsIn("A>B"), impl.MaxDeps+1)
	checkDecomposed(t, 2, many[:impl.MaxDeps], []int{3})
	checkDecomposed(t, 2, many, nil)
}

// TestNormalResultsAreNewMemory changes one result before the next one, and an argument after the call.
func TestNormalResultsAreNewMemory(t *testing.T) {
	for _, l := range meaningLists() {
		checkNewMemory(t, func() []int { return impl.DecomposeBoyce(5, l) })
		checkNewMemory(t, func() []int { return impl.SynthesizeThird(5, l) })
		a := spareDeps(l)
		divided, synthesized := impl.DecomposeBoyce(5, a), impl.SynthesizeThird(5, a)
		spoilDeps(a)
		if !slices.Equal(divided, slowDivided(5, slowClosures(5, l))) || !slices.Equal(synthesized, slowSynthesized(5, l)) {
			t.Fatalf("%v and %v after a change of the argument", divided, synthesized)
		}
	}
}

// TestNormalEveryTime makes the same calls many times.
func TestNormalEveryTime(t *testing.T) {
	l := depsIn("AB>C C>B A>D")
	for range 1000 {
		checkForms(t, 4, l, 15, false, false)
		checkForms(t, 4, l, 7, false, true)
		checkDecomposed(t, 4, l, []int{5, 6, 9})
		checkSynthesized(t, 4, l, []int{7, 9})
		checkPreserving(t, 4, l, []int{5, 6, 9}, false)
		checkPreserving(t, 4, l, []int{7, 9}, true)
	}
}
