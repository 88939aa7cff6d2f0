package tests

import (
	"math"
	"math/rand"
	"slices"
	"testing"

	"loop.example/g01988/impl"
)

// Promise 5: all searches find the same dependencies and keys. The transversals are the smallest sets that hit every edge, and those of the difference sets and of the complements of the agree sets are what chapters 7 and 8 find.

// shareColumn reports whether two sets have a letter in common.
func shareColumn(x, y int) bool {
	for column := range 5 {
		if hasColumn(x, column) && hasColumn(y, column) {
			return true
		}
	}
	return false
}

func slowHits(edges []int, x int) bool {
	return !slices.ContainsFunc(edges, func(edge int) bool { return !shareColumn(edge, x) })
}

// slowTransversals tries all sets of so many columns, one by one, and what is left of each of them without one column.
func slowTransversals(edges []int, n int) []int {
	var found []int
	for x := range 1 << n {
		smallest := slowHits(edges, x)
		for column := range n {
			if hasColumn(x, column) && slowHits(edges, x-1<<column) {
				smallest = false
			}
		}
		if smallest {
			found = append(found, x)
		}
	}
	return found
}

// slowGrown keeps or replaces each element by itself.
func slowGrown(l []int, edge int) []int {
	var grown []int
	for _, x := range l {
		if shareColumn(x, edge) {
			grown = append(grown, x)
			continue
		}
		for column := range 5 {
			if hasColumn(edge, column) {
				grown = append(grown, x+1<<column)
			}
		}
	}
	return slowMinimal(grown)
}

// shortLists are all lists of at most so many sets of n columns.
func shortLists(n, length int) [][]int {
	all := [][]int{nil}
	for at := 0; len(all[at]) < length; at++ {
		for set := range 1 << n {
			all = append(all, append(slices.Clone(all[at]), set))
		}
	}
	return all
}

// longList has so many sets of n columns, small and large ones, and the empty one seldom.
func longList(r *rand.Rand, n, length int) []int {
	l := make([]int, length)
	wide := r.Intn(3)
	for i := range l {
		for range 1 + r.Intn(1+2*wide) {
			l[i] |= 1 << r.Intn(n)
		}
		if r.Intn(200) == 0 {
			l[i] = 0
		}
	}
	return l
}

// farSets are no sets of the first n columns, although some are sets of more.
func farSets(n int) []int {
	far := slices.Clone(invalidSets)
	for set := 1 << n; set < 70; set++ {
		far = append(far, set)
	}
	return append(far, -1<<n, 1<<40|1)
}

func checkTransversals(t *testing.T, edges []int, n int, want []int) {
	t.Helper()
	if got := impl.Transversals(edges, n); !slices.Equal(got, want) {
		t.Fatalf("Transversals(%v, %d) = %v, want %v", edges, n, got, want)
	}
}

func checkGrown(t *testing.T, l []int, edge int, want []int) {
	t.Helper()
	if got := impl.GrowTransversals(l, edge); !slices.Equal(got, want) {
		t.Fatalf("GrowTransversals(%v, %d) = %v, want %v", l, edge, got, want)
	}
}

func checkHits(t *testing.T, edges []int, x int, want bool) {
	t.Helper()
	if got := impl.HitsAll(edges, x); got != want {
		t.Fatalf("HitsAll(%v, %d) = %v, want %v", edges, x, got, want)
	}
}

func TestTransversals(t *testing.T) {
	cases := []struct {
		edges []int
		n     int
		want  []int
	}{
		{[]int{3, 5}, 3, []int{1, 6}},
		{[]int{5, 3}, 3, []int{1, 6}},
		{[]int{1}, 1, []int{1}},
		{[]int{16}, 5, []int{16}},
		{[]int{31}, 5, []int{1, 2, 4, 8, 16}},
		{[]int{16, 8, 4, 2, 1}, 5, []int{31}},
		{[]int{20, 3}, 5, []int{5, 6, 17, 18}},
		// a set of two columns stands before one of one column that is greater as a number
		{[]int{5, 6}, 3, []int{3, 4}},
		{[]int{24, 17, 18}, 5, []int{11, 16}},
		// no edges
		{nil, 3, []int{0}},
		{[]int{}, 3, []int{0}},
		{[]int{7, 7}[:0], 3, []int{0}},
		// an edge without columns: the only one, the first, the last, between others, twice
		{[]int{0}, 3, nil},
		{[]int{0, 3}, 3, nil},
		{[]int{3, 0}, 3, nil},
		{[]int{3, 0, 5}, 3, nil},
		{[]int{3, 5, 1, 0}, 3, nil},
		{[]int{0, 0}, 3, nil},
		{[]int{0}, 5, nil},
		// the same edge twice, beside each other or not
		{[]int{3, 3}, 3, []int{1, 2}},
		{[]int{3, 4, 3}, 3, []int{5, 6}},
		{[]int{5, 5, 5, 5}, 4, []int{1, 4}},
		// an edge that contains another one, before it and behind it
		{[]int{3, 1}, 3, []int{1}},
		{[]int{1, 3}, 3, []int{1}},
		{[]int{7, 6}, 3, []int{2, 4}},
		{[]int{6, 7}, 3, []int{2, 4}},
		{[]int{31, 6, 7, 4}, 5, []int{4}},
		// a way, a circle and all pairs of five columns
		{[]int{3, 6, 12, 24}, 5, []int{10, 13, 21, 22}},
		{[]int{3, 6, 12, 24, 17}, 5, []int{11, 13, 21, 22, 26}},
		{[]int{3, 5, 9, 17, 6, 10, 18, 12, 20, 24}, 5, []int{15, 23, 27, 29, 30}},
		// all sets of three and of four
		{[]int{7, 11, 13, 14, 19, 21, 22, 25, 26, 28}, 5, []int{7, 11, 13, 14, 19, 21, 22, 25, 26, 28}},
		{[]int{15, 23, 27, 29, 30}, 5, []int{3, 5, 6, 9, 10, 12, 17, 18, 20, 24}},
		// columns in no edge
		{[]int{2}, 5, []int{2}},
		{[]int{8, 2}, 5, []int{10}},
		// no columns at all
		{nil, 0, []int{0}},
		{[]int{0}, 0, nil},
		{[]int{0, 0}, 0, nil},
		{[]int{1}, 0, nil},
	}
	for _, c := range cases {
		checkTransversals(t, c.edges, c.n, c.want)
	}
}

// TestTransversalsOfFewEdges tries all lists of at most three edges.
func TestTransversalsOfFewEdges(t *testing.T) {
	for n := range impl.MaxColumns + 1 {
		for _, edges := range shortLists(n, 3) {
			checkTransversals(t, edges, n, slowTransversals(edges, n))
		}
	}
}

// TestTransversalsOfManyEdges has up to 100 edges, and looks at each result by HitsAll too.
func TestTransversalsOfManyEdges(t *testing.T) {
	r := rand.New(rand.NewSource(18))
	for range 3000 {
		n := 5 - r.Intn(2)*r.Intn(5)
		edges := longList(r, n, r.Intn(101)/(1+r.Intn(20)))
		found := impl.Transversals(edges, n)
		checkTransversals(t, edges, n, slowTransversals(edges, n))
		for x := range 1 << n {
			checkHits(t, edges, x, containsOne(x, found))
		}
	}
}

// TestTransversalsOfTransversals expects that the transversals of the transversals are the smallest edges.
func TestTransversalsOfTransversals(t *testing.T) {
	for _, edges := range shortLists(5, 2) {
		if len(edges) > 0 && !slices.Contains(edges, 0) {
			checkTransversals(t, impl.Transversals(edges, 5), 5, slowMinimal(edges))
		}
	}
}

// TestTransversalsColumnCounts has every number of columns and numbers that are none.
func TestTransversalsColumnCounts(t *testing.T) {
	lists := [][]int{nil, {}, {0}, {1}, {3, 5}, {1, 0}, {31}, {32}, {-1}, {63, 1}}
	for _, edges := range lists {
		for n := -1; n <= impl.MaxColumns+1; n++ {
			var want []int
			inside := !slices.ContainsFunc(edges, func(edge int) bool { return edge < 0 || n >= 0 && edge >= 1<<n })
			if n >= 0 && n <= 5 && inside {
				want = slowTransversals(edges, n)
			}
			checkTransversals(t, edges, n, want)
		}
		for _, n := range badColumnCounts {
			checkTransversals(t, edges, n, nil)
		}
	}
}

// TestTransversalsLimits counts all edges, also equal ones and empty ones.
func TestTransversalsLimits(t *testing.T) {
	for count := range 210 {
		same := slices.Repeat([]int{5}, count)
		mixed := make([]int, count)
		for i := range mixed {
			mixed[i] = 1 + i*7%31
		}
		if count > 100 {
			checkTransversals(t, same, 5, nil)
			checkTransversals(t, mixed, 5, nil)
			continue
		}
		checkTransversals(t, same, 5, slowTransversals(same, 5))
		checkTransversals(t, mixed, 5, slowTransversals(mixed, 5))
	}
	// The last of as many edges as there may be counts as well.
	last := append(slices.Repeat([]int{6}, 99), 9)
	checkTransversals(t, last, 4, []int{3, 5, 10, 12})
	last[99] = 0
	checkTransversals(t, last, 4, nil)
	last[99] = 16
	checkTransversals(t, last, 4, nil)
	checkTransversals(t, slices.Repeat([]int{31}, 100), 5, []int{1, 2, 4, 8, 16})
	checkTransversals(t, slices.Repeat([]int{31}, 101), 5, nil)
	checkTransversals(t, make([]int, 101), 0, nil)
}

// TestTransversalsOfNoEdge has edges that are negative, beyond the first n columns or no set at all, at every place, also behind an edge without columns.
func TestTransversalsOfNoEdge(t *testing.T) {
	for n := range impl.MaxColumns + 1 {
		for _, far := range farSets(n) {
			checkTransversals(t, []int{far}, n, nil)
			for place := range 4 {
				all := 1<<n - 1
				checkTransversals(t, slices.Insert([]int{all, all, all}, place, far), n, nil)
				checkTransversals(t, slices.Insert([]int{all, 0, all}, place, far), n, nil)
			}
			checkTransversals(t, append(slices.Repeat([]int{1<<n - 1}, 99), far), n, nil)
		}
	}
	// Each edge that is beyond four columns is one of five.
	for far := 16; far < 32; far++ {
		checkTransversals(t, []int{3, far}, 4, nil)
		checkTransversals(t, []int{3, far}, 5, slowTransversals([]int{3, far}, 5))
	}
}

func TestHitsAll(t *testing.T) {
	cases := []struct {
		edges []int
		x     int
		want  bool
	}{
		{[]int{3, 5}, 6, true},
		{[]int{3, 5}, 1, true},
		{[]int{3, 5}, 7, true},
		{[]int{3, 5}, 31, true},
		{[]int{3, 5}, 2, false},
		{[]int{3, 5}, 4, false},
		{[]int{3, 5}, 8, false},
		{[]int{3, 5}, 0, false},
		// the edge that is missed is the first, the last or between others
		{[]int{4, 3, 1}, 3, false},
		{[]int{3, 1, 4}, 3, false},
		{[]int{3, 4, 1}, 3, false},
		// no edges
		{nil, 0, true},
		{[]int{}, 0, true},
		{nil, 31, true},
		{[]int{7, 7}[:0], 8, true},
		// an edge without columns
		{[]int{0}, 0, false},
		{[]int{0}, 31, false},
		{[]int{31, 0}, 31, false},
		{[]int{0, 31}, 31, false},
		{[]int{31, 0, 1}, 31, false},
		// more columns than any edge has
		{[]int{16}, 31, true},
		{[]int{16}, 15, false},
		{[]int{1, 2, 4, 8, 16}, 31, true},
		{[]int{1, 2, 4, 8, 16}, 30, false},
		{[]int{1, 2, 4, 8, 16}, 15, false},
	}
	for _, c := range cases {
		checkHits(t, c.edges, c.x, c.want)
	}
}

// TestHitsAllOfFewEdges tries all lists of at most two edges with all sets.
func TestHitsAllOfFewEdges(t *testing.T) {
	for _, edges := range shortLists(5, 2) {
		for x := range 32 {
			checkHits(t, edges, x, slowHits(edges, x))
		}
	}
}

// TestHitsAllInvalid has sets and edges that are not valid, at every place.
func TestHitsAllInvalid(t *testing.T) {
	for _, bad := range invalidSets {
		for _, edges := range [][]int{nil, {}, {0}, {1}, {31}, {3, 5}, {bad}, {1, bad}} {
			checkHits(t, edges, bad, false)
		}
		for x := range 32 {
			checkHits(t, []int{bad}, x, false)
			for place := range 4 {
				checkHits(t, slices.Insert([]int{31, 31, 31}, place, bad), x, false)
			}
		}
	}
}

// TestHitsAllOfManyEdges has more edges than Transversals accepts: here there is no limit.
func TestHitsAllOfManyEdges(t *testing.T) {
	for _, count := range []int{99, 100, 101, 1000} {
		edges := slices.Repeat([]int{12, 5}, count)
		checkHits(t, edges, 4, true)
		checkHits(t, edges, 9, true)
		checkHits(t, edges, 8, false)
		checkHits(t, append(edges, 2), 4, false)
		checkHits(t, append(edges, 2), 6, true)
		checkHits(t, append(edges, 32), 4, false)
	}
}

func TestGrowTransversals(t *testing.T) {
	cases := []struct {
		l    []int
		edge int
		want []int
	}{
		// all elements are replaced, none, or some
		{[]int{1, 2}, 4, []int{5, 6}},
		{[]int{1, 2}, 3, []int{1, 2}},
		{[]int{1, 4}, 1, []int{1}},
		{[]int{4, 1}, 1, []int{1}},
		{[]int{1, 6}, 9, []int{1, 14}},
		{[]int{6, 1}, 9, []int{1, 14}},
		{[]int{3, 12}, 17, []int{3, 13, 28}},
		{[]int{10, 4, 1}, 12, []int{4, 9, 10}},
		{[]int{0}, 31, []int{1, 2, 4, 8, 16}},
		{[]int{0}, 16, []int{16}},
		{[]int{8}, 7, []int{9, 10, 12}},
		// what replaces an element contains another one, or is another one
		{[]int{2, 5}, 1, []int{3, 5}},
		{[]int{2, 3}, 1, []int{3}},
		{[]int{3, 2}, 1, []int{3}},
		{[]int{2, 4}, 9, []int{3, 5, 10, 12}},
		{[]int{2, 4}, 6, []int{2, 4}},
		// elements that contain each other from the start
		{[]int{1, 3, 7}, 1, []int{1}},
		{[]int{7, 3, 1}, 2, []int{3}},
		{[]int{7, 3, 1}, 8, []int{9}},
		// the same element twice
		{[]int{1, 1}, 2, []int{3}},
		{[]int{1, 2, 1}, 4, []int{5, 6}},
		{[]int{5, 5, 5}, 4, []int{5}},
		// an edge without columns
		{[]int{0}, 0, nil},
		{[]int{1, 2}, 0, nil},
		{[]int{31}, 0, nil},
		{[]int{31, 0, 3}, 0, nil},
		// no elements
		{nil, 3, nil},
		{[]int{}, 3, nil},
		{nil, 0, nil},
		{[]int{7, 7}[:0], 31, nil},
	}
	for _, c := range cases {
		checkGrown(t, c.l, c.edge, c.want)
	}
}

// TestGrowTransversalsOfFewElements tries all lists of at most two elements with all edges.
func TestGrowTransversalsOfFewElements(t *testing.T) {
	for _, l := range shortLists(5, 2) {
		for edge := range 32 {
			checkGrown(t, l, edge, slowGrown(l, edge))
		}
	}
}

// TestGrowTransversalsOfManyElements has up to 100 elements, which need not be transversals of anything, and every edge.
func TestGrowTransversalsOfManyElements(t *testing.T) {
	r := rand.New(rand.NewSource(19))
	for range 300 {
		l := longList(r, 5, r.Intn(101)/(1+r.Intn(20)))
		for edge := range 32 {
			checkGrown(t, l, edge, slowGrown(l, edge))
		}
	}
}

// TestGrowTransversalsLimits counts all elements, also equal ones, but not what replaces them.
func TestGrowTransversalsLimits(t *testing.T) {
	for count := range 210 {
		same := slices.Repeat([]int{5}, count)
		empty := make([]int, count)
		mixed := make([]int, count)
		for i := range mixed {
			mixed[i] = i * 7 % 32
		}
		for _, l := range [][]int{same, empty, mixed} {
			for _, edge := range []int{0, 1, 2, 10, 26, 31} {
				if count > 100 {
					checkGrown(t, l, edge, nil)
					continue
				}
				checkGrown(t, l, edge, slowGrown(l, edge))
			}
		}
	}
	// The last of as many elements as there may be counts as well.
	last := append(slices.Repeat([]int{6}, 99), 1)
	checkGrown(t, last, 8, []int{9, 14})
	last[99] = 2
	checkGrown(t, last, 2, []int{2})
	last[99] = 32
	checkGrown(t, last, 2, nil)
}

// TestGrowTransversalsOfEverySet has all sets as elements, as often as there may be.
func TestGrowTransversalsOfEverySet(t *testing.T) {
	all := setsOf(5)
	for edge := range 32 {
		for _, l := range [][]int{all, all[1:], all[6:], append(slices.Repeat(all, 3), 0, 1, 2, 4)} {
			checkGrown(t, l, edge, slowGrown(l, edge))
		}
	}
}

// TestGrowTransversalsInvalid has elements and edges that are not valid.
func TestGrowTransversalsInvalid(t *testing.T) {
	for _, bad := range invalidSets {
		for _, l := range [][]int{nil, {}, {0}, {1}, {31}, {1, 6}, {bad}} {
			checkGrown(t, l, bad, nil)
		}
		for edge := range 32 {
			checkGrown(t, []int{bad}, edge, nil)
			for place := range 4 {
				checkGrown(t, slices.Insert([]int{1, 6, 31}, place, bad), edge, nil)
			}
		}
		checkGrown(t, append(make([]int, 99), bad), 1, nil)
		checkGrown(t, append(make([]int, 100), bad), 1, nil)
	}
}

// takenOneByOne begins with the empty set alone and takes one edge after the other into account.
func takenOneByOne(edges []int) []int {
	l := []int{0}
	for _, edge := range edges {
		l = impl.GrowTransversals(l, edge)
	}
	return l
}

// TestTransversalsOneByOne compares with Transversals, whatever the order of the edges.
func TestTransversalsOneByOne(t *testing.T) {
	r := rand.New(rand.NewSource(20))
	lists := shortLists(3, 3)
	for range 1000 {
		lists = append(lists, longList(r, 5, r.Intn(101)/(1+r.Intn(20))))
	}
	for _, edges := range lists {
		want := impl.Transversals(edges, 5)
		for range 3 {
			if got := takenOneByOne(edges); !slices.Equal(got, want) {
				t.Fatalf("%v taken one by one lead to %v, but Transversals is %v", edges, got, want)
			}
			edges = slices.Clone(edges)
			r.Shuffle(len(edges), func(i, k int) { edges[i], edges[k] = edges[k], edges[i] })
			checkTransversals(t, edges, 5, want)
		}
	}
}

// checkFound compares what the transversals find with a written cover and written keys, and the other searches too.
func checkFound(t *testing.T, table impl.Table, mode int, cover string, keys []int) {
	t.Helper()
	checkCover(t, table, mode, cover)
	checkKeys(t, table, mode, keys)
	if got := textOfCover(impl.DepsByTransversals(table, mode)); got != cover {
		t.Fatalf("DepsByTransversals(%v, %d) = %q, want %q", table, mode, got, cover)
	}
	if got := impl.KeysByTransversals(table, mode); !slices.Equal(got, keys) {
		t.Fatalf("KeysByTransversals(%v, %d) = %v, want %v", table, mode, got, keys)
	}
}

// checkSameFound compares what all searches find with the rows, cell by cell.
func checkSameFound(t *testing.T, table impl.Table, mode int) {
	t.Helper()
	cover := slowCover(table.Columns, func(d impl.Dep) bool {
		_, _, violated := slowWitness(table, mode, d)
		return !violated
	})
	unique := slices.DeleteFunc(setsOf(table.Columns), func(set int) bool { return !slowUnique(table, mode, set) })
	checkFound(t, table, mode, textOfCover(cover), slowMinimal(unique))
	end := impl.RunSearch(start(t, table, mode), math.MaxInt)
	if len(end.Found) != len(cover) {
		t.Fatalf("RunSearch of %v, %d finds %q, want %q", table, mode, textOfCover(end.Found), textOfCover(cover))
	}
	for right := range table.Columns {
		// What a search finds for one column is in the order of PartsBySize.
		if got, want := leftsFor(end.Found, right), leftsFor(cover, right); !slices.Equal(got, want) {
			t.Fatalf("RunSearch of %v, %d finds %v for %d, want %v", table, mode, got, right, want)
		}
	}
}

func TestFoundByTransversals(t *testing.T) {
	withNulls := tableOf(3, []int{null, 1, 2}, []int{null, 1, 2}, []int{0, null, 3}, []int{0, null, 4}, []int{1, 5, null}, []int{2, 5, null})
	cases := []struct {
		table impl.Table
		mode  int
		cover string
		keys  []int
	}{
		{people, 0, "A>B C>B A>C none>D", []int{1}},
		{people, 1, "A>B C>B A>C none>D", []int{1}},
		// sets of one column stand before those of two in the cover, also if they are greater as numbers, and keys do not
		{crossed, 0, "C>A BD>A C>B AD>B AB>C AD>C BD>C C>D AB>D", []int{3, 4, 9, 10}},
		{crossed, 1, "C>A BD>A C>B AD>B AB>C AD>C BD>C C>D AB>D", []int{3, 4, 9, 10}},
		{apartPairs, 0, "B>A D>A A>B D>B D>C AC>D BC>D", []int{5, 6, 8}},
		{tableOf(2, []int{0, 0}, []int{0, 1}, []int{1, 0}, []int{1, 1}), 0, "", []int{3}},
		{tableOf(3, []int{0, 0, 0}, []int{0, 1, 1}, []int{1, 0, 1}, []int{1, 1, 0}), 1, "BC>A AC>B AB>C", []int{3, 5, 6}},
		// nulls in which the modes differ
		{withNulls, 0, "A>B C>B", nil},
		{withNulls, 1, "C>B AB>C", []int{3, 5}},
		{tableOf(2, []int{null, 1}, []int{null, 2}), 0, "none>A", []int{2}},
		{tableOf(2, []int{null, 1}, []int{null, 2}), 1, "B>A A>B", []int{1, 2}},
		{tableOf(2, []int{3, null}, []int{3, null}), 0, "none>A none>B", nil},
		{tableOf(2, []int{3, null}, []int{3, null}), 1, "none>A", []int{2}},
		{tableOf(2, []int{null, null}, []int{null, null}), 0, "none>A none>B", nil},
		{tableOf(2, []int{null, null}, []int{null, null}), 1, "B>A A>B", []int{1, 2}},
		// no row and one row
		{tableOf(3), 0, "none>A none>B none>C", []int{0}},
		{tableOf(3), 1, "none>A none>B none>C", []int{0}},
		{tableOf(2, []int{7, null}), 0, "none>A none>B", []int{0}},
		{tableOf(2, []int{null, null}), 1, "none>A none>B", []int{0}},
		// equal rows, alone and beside others
		{tableOf(2, []int{0, 1}, []int{0, 1}), 0, "none>A none>B", nil},
		{tableOf(2, []int{0, 1}, []int{1, 1}, []int{2, 1}, []int{0, 1}), 1, "none>B", nil},
		{tableOf(2, []int{0, 0}, []int{1, 1}, []int{0, 0}), 0, "B>A A>B", nil},
	}
	for _, c := range cases {
		checkFound(t, c.table, c.mode, c.cover, c.keys)
	}
}

// TestFoundInOneColumn has no other column, so that at most the empty set determines it.
func TestFoundInOneColumn(t *testing.T) {
	cases := []struct {
		values               []int
		equal, apart         string
		keysEqual, keysApart []int
	}{
		{nil, "none>A", "none>A", []int{0}, []int{0}},
		{[]int{40}, "none>A", "none>A", []int{0}, []int{0}},
		{[]int{null}, "none>A", "none>A", []int{0}, []int{0}},
		{[]int{40, 40}, "none>A", "none>A", nil, nil},
		{[]int{0, 40}, "", "", []int{1}, []int{1}},
		{[]int{0, 40, 0}, "", "", nil, nil},
		{[]int{null, null}, "none>A", "", nil, []int{1}},
		{[]int{null, 0, null}, "", "", nil, []int{1}},
	}
	for _, c := range cases {
		table := tableOf(1)
		for _, value := range c.values {
			table.Rows = append(table.Rows, []int{value})
		}
		checkFound(t, table, impl.NullsEqual, c.equal, c.keysEqual)
		checkFound(t, table, impl.NullsApart, c.apart, c.keysApart)
	}
}

// TestFoundInFewRows has every number of columns with no row, one row, and one row several times.
func TestFoundInFewRows(t *testing.T) {
	row := []int{3, 0, 1, 40, 7}
	for columns := 1; columns <= impl.MaxColumns; columns++ {
		all := textOfCover(levelCover(columns, 0))
		for _, mode := range modes {
			checkFound(t, tableOf(columns), mode, all, []int{0})
			checkFound(t, tableOf(columns, row[:columns]), mode, all, []int{0})
			checkFound(t, tableOf(columns, slices.Repeat([]int{null}, columns)), mode, all, []int{0})
			for _, times := range []int{2, 3, impl.MaxRows} {
				checkFound(t, repeatedRow(times, row[:columns]...), mode, all, nil)
			}
		}
		nulls := repeatedRow(impl.MaxRows, slices.Repeat([]int{null}, columns)...)
		checkFound(t, nulls, impl.NullsEqual, all, nil)
		checkFound(t, nulls, impl.NullsApart, textOfCover(levelCover(columns, 1)), levelOf(columns, 1))
	}
}

// TestFoundInManyTables compares all searches, in both modes, and expects that the modes differ somewhere.
func TestFoundInManyTables(t *testing.T) {
	r := rand.New(rand.NewSource(21))
	tables := append(agreeTables(), tinyTables()...)
	for range 200 {
		tables = append(tables, smallTable(r, 7))
	}
	covers, keys := 0, 0
	for _, table := range append(tables, people, crossed, apartPairs, agreeTable) {
		for _, mode := range modes {
			checkSameFound(t, table, mode)
		}
		if !slices.Equal(impl.DepsByTransversals(table, 0), impl.DepsByTransversals(table, 1)) {
			covers++
		}
		if !slices.Equal(impl.KeysByTransversals(table, 0), impl.KeysByTransversals(table, 1)) {
			keys++
		}
	}
	if covers == 0 || keys == 0 {
		t.Error("the modes differ nowhere")
	}
}

// TestFoundAtTheLimits has as many rows as there may be, which agree in as many columns as there may be, or in fewer.
func TestFoundAtTheLimits(t *testing.T) {
	for columns := 1; columns <= impl.MaxColumns; columns++ {
		for size := range columns {
			cover, keys := textOfCover(levelCover(columns, size+1)), levelOf(columns, size+1)
			for _, mode := range modes {
				checkFound(t, levelTable(columns, size, 0), mode, cover, keys)
				checkFound(t, levelTable(columns, size, 40), mode, cover, keys)
			}
			checkFound(t, levelTable(columns, size, null), impl.NullsEqual, cover, keys)
			// Kept apart, nulls agree in nothing.
			checkFound(t, levelTable(columns, size, null), impl.NullsApart, textOfCover(levelCover(columns, 1)), levelOf(columns, 1))
		}
	}
	r := rand.New(rand.NewSource(22))
	for range 60 {
		table := tableOf(impl.MaxColumns)
		for range impl.MaxRows {
			row := make([]int, impl.MaxColumns)
			for column := range row {
				row[column] = r.Intn(impl.MaxCell+2) - 1
				if r.Intn(3) == 0 {
					row[column] = null
				}
			}
			table.Rows = append(table.Rows, row)
		}
		for _, mode := range modes {
			checkSameFound(t, table, mode)
		}
	}
}

// everySetTable has as many columns and rows as there may be, and all sets of columns as agree sets of its first row.
func everySetTable() impl.Table {
	t := repeatedRow(impl.MaxRows-31, 0, 0, 0, 0, 0)
	for set := range 31 {
		t.Rows = append(t.Rows, rowOfSet(5, set, 0, set+1))
	}
	return t
}

// TestFoundOfEveryAgreeSet has all sets of columns as agree sets, so that an edge of the keys is without columns and none are determined; without the equal rows, all columns together are the key.
func TestFoundOfEveryAgreeSet(t *testing.T) {
	table := everySetTable()
	fewer := impl.Table{Columns: 5, Rows: table.Rows[impl.MaxRows-32:]}
	for _, mode := range modes {
		if got := impl.AgreeSets(table, mode); len(got) != 32 {
			t.Fatalf("AgreeSets(%v, %d) = %v, want all sets", table, mode, got)
		}
		checkFound(t, table, mode, "", nil)
		checkFound(t, fewer, mode, "", []int{31})
	}
}

// TestFoundOfDifferenceSets asks for the transversals of the difference sets of each column and of what the agree sets leave.
func TestFoundOfDifferenceSets(t *testing.T) {
	for _, table := range append(someTables(), tinyTables()...) {
		n := table.Columns
		for _, mode := range modes {
			cover := impl.DepsByTransversals(table, mode)
			for right := range n {
				lefts := leftsFor(cover, right)
				slices.Sort(lefts)
				checkTransversals(t, impl.DifferenceSets(table, mode, right), n, lefts)
			}
			var left []int
			for _, agreed := range impl.AgreeSets(table, mode) {
				left = append(left, 1<<n-1-agreed)
			}
			checkTransversals(t, left, n, impl.KeysByTransversals(table, mode))
		}
	}
}

// checkNothingFound expects that the transversals find nothing.
func checkNothingFound(t *testing.T, table impl.Table, mode int) {
	t.Helper()
	if got := impl.DepsByTransversals(table, mode); len(got) != 0 {
		t.Fatalf("DepsByTransversals(%v, %d) = %v, want nothing", table, mode, got)
	}
	if got := impl.KeysByTransversals(table, mode); len(got) != 0 {
		t.Fatalf("KeysByTransversals(%v, %d) = %v, want nothing", table, mode, got)
	}
}

func TestFoundInvalid(t *testing.T) {
	tables := append(coverTables(), manyRows(40, 5), levelTable(5, 1, null), repeatedRow(40, null))
	for columns := 1; columns <= 5; columns++ {
		tables = append(tables, tableOf(columns), manyRows(1, columns))
	}
	for _, table := range tables {
		for _, mode := range badModes {
			checkNothingFound(t, table, mode)
		}
	}
	for _, bad := range invalidTables {
		for mode := -1; mode <= 2; mode++ {
			checkNothingFound(t, bad, mode)
		}
	}
}

// TestFoundOfUnusedCapacity has a row behind the end of the list, within its capacity.
func TestFoundOfUnusedCapacity(t *testing.T) {
	rows := [][]int{{1, 1}, {2, 1}, {2, 2}}
	for _, mode := range modes {
		checkFound(t, impl.Table{Columns: 2, Rows: rows[:1]}, mode, "none>A none>B", []int{0})
		checkFound(t, impl.Table{Columns: 2, Rows: rows[:2]}, mode, "none>B", []int{1})
		checkFound(t, impl.Table{Columns: 2, Rows: rows}, mode, "", []int{3})
	}
	edges := []int{3, 5, 0, 64}
	checkTransversals(t, edges[:1], 3, []int{1, 2})
	checkTransversals(t, edges[:2], 3, []int{1, 6})
	checkTransversals(t, edges[:3], 3, nil)
	checkHits(t, edges[:2], 6, true)
	checkHits(t, edges[:3], 6, false)
	checkGrown(t, edges[:2], 8, []int{11, 13})
	checkGrown(t, edges[:3], 8, []int{8})
	checkGrown(t, edges, 8, nil)
}

// TestTransversalArgumentsStay compares lists, with their unused capacity, before and after the calls, and after their results were overwritten.
func TestTransversalArgumentsStay(t *testing.T) {
	lists := [][]int{
		nil, {}, {0}, {31}, {1, 2, 4}, {4, 2, 1}, {3, 1, 6, 2, 3}, {31, 0, 31}, {8, 0}, {32}, {5, -1}, {2, 64, 1},
		setsOf(5), make([]int, 100), make([]int, 101), slices.Repeat([]int{12}, 100),
	}
	for _, l := range lists {
		a := spareRow(l)
		before := slices.Clone(a[:cap(a)])
		for edge := -1; edge <= 32; edge++ {
			spoilRow(impl.GrowTransversals(a, edge))
			impl.HitsAll(a, edge)
		}
		for n := -1; n <= 6; n++ {
			spoilRow(impl.Transversals(a, n))
		}
		if after := a[:cap(a)]; !slices.Equal(after, before) {
			t.Errorf("%v became %v", before, after)
		}
	}
}

// TestTransversalResultsAreNewMemory changes the argument after the call, and one result before the next one.
func TestTransversalResultsAreNewMemory(t *testing.T) {
	for _, l := range [][]int{{1, 2, 4}, {1, 6}, {3, 5}, {31}, {16, 8, 4, 2, 1}} {
		for edge := 1; edge < 32; edge++ {
			a := spareRow(l)
			grown, found := impl.GrowTransversals(a, edge), impl.Transversals(a, 5)
			spoilRow(a)
			if !slices.Equal(grown, slowGrown(l, edge)) || !slices.Equal(found, slowTransversals(l, 5)) {
				t.Fatalf("%v and %v after a change of the argument", grown, found)
			}
			checkNewMemory(t, func() []int { return impl.GrowTransversals(l, edge) })
			checkNewMemory(t, func() []int { return impl.Transversals(l, 5) })
		}
	}
	spoilRow(impl.Transversals(nil, 5))
	checkTransversals(t, nil, 5, []int{0})
	for _, table := range []impl.Table{people, crossed, tableOf(2), tableOf(1, []int{null}, []int{null})} {
		for _, mode := range modes {
			checkNewMemory(t, func() []impl.Dep { return impl.DepsByTransversals(table, mode) })
			checkNewMemory(t, func() []int { return impl.KeysByTransversals(table, mode) })
		}
	}
}

// TestFoundTablesStay compares tables, with their unused capacity, before and after the calls, and after their results were overwritten.
func TestFoundTablesStay(t *testing.T) {
	for _, table := range append(agreeTables(), invalidTables...) {
		a := spareTable(table)
		before := wholeTable(a)
		for mode := -1; mode <= 2; mode++ {
			spoilDeps(impl.DepsByTransversals(a, mode))
			spoilRow(impl.KeysByTransversals(a, mode))
		}
		if after := wholeTable(a); after != before {
			t.Fatalf("%s became %s", before, after)
		}
	}
}

// TestFoundEveryTime makes the same calls many times.
func TestFoundEveryTime(t *testing.T) {
	for range 300 {
		for _, mode := range modes {
			checkFound(t, crossed, mode, "C>A BD>A C>B AD>B AB>C AD>C BD>C C>D AB>D", []int{3, 4, 9, 10})
		}
		checkTransversals(t, []int{3, 6, 12, 24}, 5, []int{10, 13, 21, 22})
		checkGrown(t, []int{10, 4, 1}, 12, []int{4, 9, 10})
	}
}
