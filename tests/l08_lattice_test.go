package tests

import (
	"fmt"
	"math"
	"math/rand"
	"slices"
	"strings"
	"testing"

	"loop.example/g01988/impl"
)

// Promise 6: an interrupted search has found only minimal dependencies and goes on as if it had not been interrupted.

// farNumbers are no places of a candidate and no numbers of tests.
var farNumbers = []int{math.MinInt, math.MinInt + 1, -1 << 32, -2, -1, 161, 1000, 1 << 32, 1<<32 + 1, math.MaxInt - 1, math.MaxInt}

// negativeBudgets treat nothing.
var negativeBudgets = []int{math.MinInt, math.MinInt + 1, -1 << 32, -100, -2, -1}

// largeBudgets are beyond the number of tests of any search.
var largeBudgets = []int{160, 161, 1000, 1 << 32, math.MaxInt - 1, math.MaxInt}

// orderOf writes down the order of the candidates of so many columns.
func orderOf(columns int) []impl.Dep {
	var order []impl.Dep
	for _, set := range setsOf(columns) {
		for right := range columns {
			order = append(order, impl.Dep{Left: set, Right: right})
		}
	}
	return order
}

// sameSearch is an equality that does not rest on EqualSearches.
func sameSearch(a, b impl.Search) bool {
	return sameTable(a.Table, b.Table) && a.Mode == b.Mode && a.At == b.At && a.Tests == b.Tests && slices.Equal(a.Found, b.Found)
}

// statesOf writes down the search after each number of candidates. It asks, for every dependency by itself, whether it is minimal, or only no smaller part of Left suffices.
func statesOf(table impl.Table, mode int) []impl.Search {
	suffices := map[impl.Dep]bool{}
	for _, d := range depsOf(table.Columns) {
		_, _, violated := slowWitness(table, mode, d)
		suffices[d] = !violated
	}
	state := impl.Search{Table: table, Mode: mode}
	states := []impl.Search{state}
	for _, d := range orderOf(table.Columns) {
		enough := func(left int) bool { return suffices[impl.Dep{Left: left, Right: d.Right}] }
		if !hasColumn(d.Left, d.Right) && !slices.ContainsFunc(smallerParts(d.Left), enough) {
			state.Tests++
			if enough(d.Left) {
				state.Found = append(slices.Clone(state.Found), d)
			}
		}
		state.At++
		states = append(states, state)
	}
	return states
}

// last is the end of a search whose states are given.
func last(states []impl.Search) impl.Search {
	return states[len(states)-1]
}

// afterBudget is the state in which a run with a budget ends.
func afterBudget(states []impl.Search, from, budget int) impl.Search {
	if budget <= 0 {
		return states[from]
	}
	for _, state := range states[from:] {
		if state.Tests-states[from].Tests == budget {
			return state
		}
	}
	return last(states)
}

// searchTables have every number of columns, and among them are such as the limits allow.
func searchTables() []impl.Table {
	return append(coverTables(), levelTable(5, 1, 0), levelTable(5, 3, null), levelTable(5, 4, 40), levelTable(4, 3, 7), manyRows(40, 5))
}

// smallSearchTables are few enough to try every call with each of their states.
func smallSearchTables() []impl.Table {
	r := rand.New(rand.NewSource(17))
	all := []impl.Table{
		tableOf(1), tableOf(2), tableOf(3),
		tableOf(1, []int{0}, []int{1}),
		tableOf(3, []int{3, null, 1}, []int{3, null, 2}),
		tableOf(3, []int{0, 0, 0}, []int{0, 1, 1}, []int{1, 0, 1}, []int{1, 1, 0}),
		levelTable(3, 2, 0),
	}
	for range 25 {
		all = append(all, smallTable(r, 8))
	}
	return all
}

// walked writes down the search after each number of candidates from one letter for each: a dot if Right is in Left, p if a part was found before, t if the candidate was tested, and f if it was found too. Spaces stand between the sets.
func walked(table impl.Table, mode int, letters string) []impl.Search {
	letters = strings.ReplaceAll(letters, " ", "")
	state := impl.Search{Table: table, Mode: mode}
	states := []impl.Search{state}
	for at, d := range orderOf(table.Columns) {
		state.At++
		if letters[at] == 't' || letters[at] == 'f' {
			state.Tests++
		}
		if letters[at] == 'f' {
			state.Found = append(slices.Clone(state.Found), d)
		}
		states = append(states, state)
	}
	return states
}

// start begins a search and expects that this is possible.
func start(t *testing.T, table impl.Table, mode int) impl.Search {
	t.Helper()
	s, ok := impl.NewSearch(table, mode)
	if want := (impl.Search{Table: table, Mode: mode}); !ok || !sameSearch(s, want) {
		t.Fatalf("NewSearch(%v, %d) = %v, %v, want %v", table, mode, s, ok, want)
	}
	return s
}

// checkNoStart expects that no search begins.
func checkNoStart(t *testing.T, table impl.Table, mode int) {
	t.Helper()
	if s, ok := impl.NewSearch(table, mode); ok || !sameSearch(s, impl.Search{}) {
		t.Fatalf("NewSearch(%v, %d) = %v, %v, want the zero value and false", table, mode, s, ok)
	}
}

// checkState looks at a search with every function that does not continue it.
func checkState(t *testing.T, got, want impl.Search) {
	t.Helper()
	if !sameSearch(got, want) {
		t.Fatalf("the search is %v, want %v", got, want)
	}
	if !impl.EqualSearches(got, want) || !impl.EqualSearches(want, got) {
		t.Fatalf("EqualSearches of %v and %v = false", got, want)
	}
	if !impl.IsSearch(got) {
		t.Fatalf("IsSearch(%v) = false", got)
	}
	order := orderOf(want.Table.Columns)
	if ended := impl.IsSearched(got); ended != (want.At == len(order)) {
		t.Fatalf("IsSearched(%v) = %v", got, ended)
	}
	d, ok := impl.CandidateAt(got)
	if want.At == len(order) && (ok || d != (impl.Dep{})) {
		t.Fatalf("CandidateAt(%v) = %v, %v, want the zero value and false", got, d, ok)
	}
	if want.At < len(order) && (!ok || d != order[want.At]) {
		t.Fatalf("CandidateAt(%v) = %v, %v, want %v", got, d, ok, order[want.At])
	}
}

// checkSteps makes every step of a search, and one more.
func checkSteps(t *testing.T, s impl.Search, states []impl.Search) {
	t.Helper()
	for at := s.At; ; at++ {
		checkState(t, s, states[at])
		next, ok := impl.StepSearch(s)
		if ended := at == len(states)-1; ok == ended {
			t.Fatalf("StepSearch(%v) = %v, %v", s, next, ok)
		}
		if !ok {
			checkState(t, next, states[at])
			return
		}
		s = next
	}
}

// checkRun compares what a run ends with.
func checkRun(t *testing.T, s impl.Search, budget int, want impl.Search) impl.Search {
	t.Helper()
	got := impl.RunSearch(s, budget)
	if !sameSearch(got, want) {
		t.Fatalf("RunSearch(%v, %d) = %v, want %v", s, budget, got, want)
	}
	return got
}

// checkMinimal expects that a search, however far it came, has found only minimal dependencies.
func checkMinimal(t *testing.T, s impl.Search) {
	t.Helper()
	for _, d := range s.Found {
		if !impl.IsMinimalDep(s.Table, s.Mode, d) {
			t.Fatalf("%v has found %v, which is not minimal", s, d)
		}
	}
}

// checkNoSearch expects that nothing is done with a search that is not valid.
func checkNoSearch(t *testing.T, s impl.Search) {
	t.Helper()
	if impl.IsSearch(s) || impl.IsSearched(s) {
		t.Fatalf("IsSearch(%v) or IsSearched of it", s)
	}
	if d, ok := impl.CandidateAt(s); ok || d != (impl.Dep{}) {
		t.Fatalf("CandidateAt(%v) = %v, %v, want the zero value and false", s, d, ok)
	}
	if same, ok := impl.StepSearch(s); ok || !sameSearch(same, s) {
		t.Fatalf("StepSearch(%v) = %v, %v, want it unchanged and false", s, same, ok)
	}
	for _, budget := range []int{math.MinInt, -1, 0, 1, 2, 1000, math.MaxInt} {
		checkRun(t, s, budget, s)
	}
}

func TestNewSearch(t *testing.T) {
	for _, table := range append(searchTables(), tinyTables()...) {
		for _, mode := range modes {
			checkState(t, start(t, table, mode), impl.Search{Table: table, Mode: mode})
		}
	}
	noRows := start(t, impl.Table{Columns: 2, Rows: [][]int{}}, impl.NullsApart)
	checkState(t, noRows, impl.Search{Table: tableOf(2), Mode: 1})
}

func TestNewSearchInvalid(t *testing.T) {
	for _, table := range invalidTables {
		for mode := -1; mode <= 2; mode++ {
			checkNoStart(t, table, mode)
		}
	}
	for _, table := range searchTables() {
		for _, mode := range badModes {
			checkNoStart(t, table, mode)
		}
	}
}

// candidatesMet asks for one candidate after the other, and for one more than any table has if there are more. It ends with the search that has no next one.
func candidatesMet(s impl.Search) ([]impl.Dep, impl.Search) {
	var met []impl.Dep
	for len(met) <= 160 {
		d, ok := impl.CandidateAt(s)
		if !ok {
			break
		}
		met = append(met, d)
		s, _ = impl.StepSearch(s)
	}
	return met, s
}

// TestCandidates writes down the candidates of few columns, and compares with orderOf for more.
func TestCandidates(t *testing.T) {
	written := map[int]string{
		1: "none>A A>A",
		2: "none>A none>B A>A A>B B>A B>B AB>A AB>B",
		3: "none>A none>B none>C A>A A>B A>C B>A B>B B>C C>A C>B C>C AB>A AB>B AB>C AC>A AC>B AC>C BC>A BC>B BC>C ABC>A ABC>B ABC>C",
	}
	for columns := 1; columns <= impl.MaxColumns; columns++ {
		for _, table := range []impl.Table{tableOf(columns), levelTable(columns, columns-1, 0), levelTable(columns, 1, null)} {
			for _, mode := range modes {
				met, s := candidatesMet(start(t, table, mode))
				if !slices.Equal(met, orderOf(columns)) {
					t.Errorf("the candidates of %d columns are %q", columns, textOfCover(met))
				}
				if want, ok := written[columns]; ok && textOfCover(met) != want {
					t.Errorf("the candidates of %d columns are %q, want %q", columns, textOfCover(met), want)
				}
				if d, ok := impl.CandidateAt(s); s.At != len(met) || ok || d != (impl.Dep{}) {
					t.Errorf("CandidateAt(%v) = %v, %v, want the zero value and false", s, d, ok)
				}
			}
		}
	}
}

// walks are written searches.
var walks = []struct {
	table        impl.Table
	equal, apart string
}{
	{
		people,
		"tttf .ffp t.tp tf.p ttt. ..pp .p.p t..p .pp. t.t. tp.. ...p ..p. .p.. t... ....",
		"tttf .ffp t.tp tf.p ttt. ..pp .p.p t..p .pp. t.t. tp.. ...p ..p. .p.. t... ....",
	},
	{
		tableOf(3, []int{0, 0, 0}, []int{0, 1, 1}, []int{1, 0, 1}, []int{1, 1, 0}),
		"ttt .tt t.t tt. ..f .f. f.. ...",
		"ttt .tt t.t tt. ..f .f. f.. ...",
	},
	// nulls: in the column of the middle, and in one row alone
	{
		tableOf(3, []int{3, null, 1}, []int{3, null, 2}),
		"fft .pt p.t pp. ..t .p. p.. ...",
		"ftt .tt p.f pf. ..p .p. p.. ...",
	},
	{
		tableOf(3, []int{0, null, 1}, []int{0, 0, 1}, []int{1, null, 2}),
		"ttt .tf t.t ft. ..p .t. p.. ...",
		"ttt .tf f.f ft. ..p .t. p.. ...",
	},
	{tableOf(2, []int{null, 1}, []int{0, 1}), "tf .p t. ..", "tf .p t. .."},
	{tableOf(2, []int{null, null}, []int{null, null}), "ff .p p. ..", "tt .f f. .."},
	{tableOf(2, []int{0, 0}, []int{0, 1}, []int{1, 0}, []int{1, 1}), "tt .t t. ..", "tt .t t. .."},
	// no row, one row, one column
	{tableOf(2), "ff .p p. ..", "ff .p p. .."},
	{tableOf(3, []int{null, 0, 40}), "fff .pp p.p pp. ..p .p. p.. ...", "fff .pp p.p pp. ..p .p. p.. ..."},
	{tableOf(1), "f .", "f ."},
	{tableOf(1, []int{null}), "f .", "f ."},
	{tableOf(1, []int{0}, []int{1}), "t .", "t ."},
	{tableOf(1, []int{null}, []int{null}), "f .", "t ."},
}

func TestStepSearch(t *testing.T) {
	for _, c := range walks {
		checkSteps(t, start(t, c.table, 0), walked(c.table, 0, c.equal))
		checkSteps(t, start(t, c.table, 1), walked(c.table, 1, c.apart))
	}
}

// TestStepSearchOfManyTables makes every step, and looks at what was found on the way.
func TestStepSearchOfManyTables(t *testing.T) {
	for _, table := range append(searchTables(), tinyTables()...) {
		for _, mode := range modes {
			states := statesOf(table, mode)
			checkSteps(t, start(t, table, mode), states)
			for _, state := range states {
				checkMinimal(t, state)
			}
		}
	}
}

// TestSearchFindsTheCover compares the end of a search with MinimalDeps, which has the same dependencies in ascending order of Right.
func TestSearchFindsTheCover(t *testing.T) {
	for _, table := range append(someTables(), tinyTables()...) {
		for _, mode := range modes {
			end := impl.RunSearch(start(t, table, mode), math.MaxInt)
			cover := impl.MinimalDeps(table, mode)
			var want []impl.Dep
			for _, d := range orderOf(table.Columns) {
				if slices.Contains(cover, d) {
					want = append(want, d)
				}
			}
			if len(want) != len(cover) || !slices.Equal(end.Found, want) || end.At != len(orderOf(table.Columns)) {
				t.Fatalf("RunSearch of %v, %d ends with %v, but the cover is %q", table, mode, end, textOfCover(cover))
			}
			if !impl.IsSearched(end) {
				t.Fatalf("IsSearched(%v) = false", end)
			}
		}
	}
}

// TestInterruptedSearch interrupts after each number of steps, and goes on step by step and in one run from what was written down.
func TestInterruptedSearch(t *testing.T) {
	for _, table := range append(smallSearchTables(), people) {
		for _, mode := range modes {
			states := statesOf(table, mode)
			for _, state := range states {
				checkSteps(t, state, states)
				checkRun(t, state, math.MaxInt, last(states))
			}
		}
	}
}

// TestInterruptedRun interrupts after each number of tests, and looks at what was found until then.
func TestInterruptedRun(t *testing.T) {
	for _, table := range searchTables() {
		for _, mode := range modes {
			end := impl.RunSearch(start(t, table, mode), math.MaxInt)
			for budget := 0; budget <= end.Tests; budget += 1 + end.Tests/10 {
				s := impl.RunSearch(start(t, table, mode), budget)
				checkMinimal(t, s)
				if s.Tests != budget || !impl.IsSearch(s) {
					t.Fatalf("%v after %d tests", s, budget)
				}
				s = checkRun(t, s, math.MaxInt, end)
				checkRun(t, s, math.MaxInt, end)
			}
		}
	}
}

// TestRunSearch writes down how far each budget comes. The last test is made long before the last candidate.
func TestRunSearch(t *testing.T) {
	cases := []struct {
		table impl.Table
		mode  int
		at    []int
	}{
		{people, 0, []int{0, 1, 2, 3, 4, 6, 7, 9, 11, 13, 14, 17, 18, 19, 29, 37, 39, 41, 57, 64, 64, 64}},
		{people, 1, []int{0, 1, 2, 3, 4, 6, 7, 9, 11, 13, 14, 17, 18, 19, 29, 37, 39, 41, 57, 64, 64, 64}},
		{tableOf(3, []int{3, null, 1}, []int{3, null, 2}), 0, []int{0, 1, 2, 3, 6, 9, 15, 24, 24}},
		{tableOf(3, []int{3, null, 1}, []int{3, null, 2}), 1, []int{0, 1, 2, 3, 5, 6, 9, 11, 24, 24}},
		{tableOf(2), 0, []int{0, 1, 2, 8, 8}},
		{tableOf(1), 1, []int{0, 1, 2, 2}},
	}
	for _, c := range cases {
		for budget, at := range c.at {
			checkRun(t, start(t, c.table, c.mode), budget, statesOf(c.table, c.mode)[at])
		}
	}
}

// TestRunSearchWithinALevel interrupts between two sets of the same size, and between two columns of the same set.
func TestRunSearchWithinALevel(t *testing.T) {
	cases := []struct {
		budget int
		next   string
		found  string
	}{
		{2, "none>C", ""},
		{5, "A>C", "none>D A>B"},
		{7, "B>B", "none>D A>B A>C"},
		{10, "C>C", "none>D A>B A>C C>B"},
		{13, "D>D", "none>D A>B A>C C>B"},
		{14, "BC>B", "none>D A>B A>C C>B"},
		{16, "BD>D", "none>D A>B A>C C>B"},
		{17, "CD>B", "none>D A>B A>C C>B"},
	}
	for _, c := range cases {
		s := impl.RunSearch(start(t, people, 0), c.budget)
		d, ok := impl.CandidateAt(s)
		if got := textOfCover([]impl.Dep{d}); !ok || got != c.next || textOfCover(s.Found) != c.found {
			t.Errorf("after %d tests comes %q with %q found, want %q with %q", c.budget, got, textOfCover(s.Found), c.next, c.found)
		}
		checkSteps(t, s, statesOf(people, 0))
	}
	// Each candidate needs a test if its Right is not in Left, so that every set is interrupted at each of its columns.
	for columns := 1; columns <= impl.MaxColumns; columns++ {
		table := levelTable(columns, columns-1, 0)
		states := statesOf(table, 0)
		s := start(t, table, 0)
		for s.At < len(states)-1 {
			s = checkRun(t, s, 1, afterBudget(states, s.At, 1))
			if d, ok := impl.CandidateAt(s); ok != (s.At < len(states)-1) || ok && d != orderOf(columns)[s.At] {
				t.Fatalf("CandidateAt(%v) = %v, %v", s, d, ok)
			}
		}
	}
}

// TestRunSearchOfEveryBudget goes from every state on with every budget.
func TestRunSearchOfEveryBudget(t *testing.T) {
	for _, table := range smallSearchTables() {
		for _, mode := range modes {
			states := statesOf(table, mode)
			for from, state := range states {
				for budget := 0; budget <= last(states).Tests-state.Tests+2; budget++ {
					checkRun(t, state, budget, afterBudget(states, from, budget))
				}
				for _, budget := range negativeBudgets {
					checkRun(t, state, budget, state)
				}
				for _, budget := range largeBudgets {
					checkRun(t, state, budget, last(states))
				}
			}
		}
	}
}

// TestRunSearchInPieces runs with budgets of different sizes until nothing is left.
func TestRunSearchInPieces(t *testing.T) {
	for _, table := range searchTables() {
		for _, mode := range modes {
			states := statesOf(table, mode)
			for _, pieces := range [][]int{{1}, {2}, {3, 1}, {7, 0, 2}, {-1, 20}, {0, 1, 0, 5, math.MinInt, 11}, {last(states).Tests, 1}} {
				s := start(t, table, mode)
				for round := 0; s.At < len(states)-1; round++ {
					budget := pieces[round%len(pieces)]
					s = checkRun(t, s, budget, afterBudget(states, s.At, budget))
				}
				checkRun(t, s, 5, last(states))
			}
		}
	}
}

// TestRunSearchAmongSteps mixes runs and steps.
func TestRunSearchAmongSteps(t *testing.T) {
	r := rand.New(rand.NewSource(18))
	for _, table := range searchTables() {
		mode := r.Intn(2)
		states := statesOf(table, mode)
		s := start(t, table, mode)
		for s.At < len(states)-1 {
			if budget := r.Intn(4); budget > 0 {
				s = checkRun(t, s, budget, afterBudget(states, s.At, budget))
				continue
			}
			next, ok := impl.StepSearch(s)
			if !ok || !sameSearch(next, states[s.At+1]) {
				t.Fatalf("StepSearch(%v) = %v, %v", s, next, ok)
			}
			s = next
		}
	}
}

// TestEndedSearch treats nothing more.
func TestEndedSearch(t *testing.T) {
	for _, table := range append(searchTables(), tinyTables()...) {
		for _, mode := range modes {
			end := last(statesOf(table, mode))
			checkState(t, end, end)
			if same, ok := impl.StepSearch(end); ok || !sameSearch(same, end) {
				t.Fatalf("StepSearch(%v) = %v, %v, want it unchanged and false", end, same, ok)
			}
			for _, budget := range []int{math.MinInt, -1, 0, 1, 2, 1000, math.MaxInt} {
				checkRun(t, end, budget, end)
			}
		}
	}
}

// foundChanged are lists with one thing changed.
func foundChanged(found []impl.Dep, columns int) [][]impl.Dep {
	var changed [][]impl.Dep
	more := []impl.Dep{{}, {Left: 1}, {Left: 1<<columns - 1, Right: columns - 1}, {Right: columns}, {Left: -1}, {Left: 1 << columns, Right: -1}}
	for _, d := range more {
		changed = append(changed, append(slices.Clone(found), d), append([]impl.Dep{d}, found...))
	}
	for at, d := range found {
		changed = append(changed, slices.Delete(slices.Clone(found), at, at+1), slices.Insert(slices.Clone(found), at, d))
		for _, other := range []impl.Dep{{Left: d.Left ^ 1, Right: d.Right}, {Left: d.Left, Right: d.Right ^ 1}, {Left: d.Left | 32, Right: d.Right}, {Left: ^d.Left, Right: d.Right}, {Left: d.Left, Right: -1}} {
			l := slices.Clone(found)
			l[at] = other
			changed = append(changed, l)
		}
		if at > 0 {
			l := slices.Clone(found)
			l[at-1], l[at] = l[at], l[at-1]
			changed = append(changed, l)
		}
	}
	// Of what is not valid or there twice, some changes change nothing.
	return slices.DeleteFunc(changed, func(l []impl.Dep) bool { return slices.Equal(l, found) })
}

// TestIsSearchOfFound changes the list of each state.
func TestIsSearchOfFound(t *testing.T) {
	for _, table := range append(smallSearchTables()[:12], crossed) {
		for _, mode := range modes {
			for _, s := range statesOf(table, mode) {
				for _, found := range foundChanged(s.Found, table.Columns) {
					bad := s
					bad.Found = found
					checkNoSearch(t, bad)
				}
			}
		}
	}
}

// TestIsSearchOfNumbers changes At and Tests of each state. Another At is as good if the candidates between need no test.
func TestIsSearchOfNumbers(t *testing.T) {
	for _, table := range append(smallSearchTables()[:12], people) {
		for _, mode := range modes {
			states := statesOf(table, mode)
			for _, s := range states {
				for tests := -2; tests <= last(states).Tests+2; tests++ {
					changed := s
					changed.Tests = tests
					if got := impl.IsSearch(changed); got != (tests == s.Tests) {
						t.Fatalf("IsSearch(%v) = %v", changed, got)
					}
				}
				for at, other := range states {
					changed := s
					changed.At = at
					if got, want := impl.IsSearch(changed), sameSearch(changed, other); got != want {
						t.Fatalf("IsSearch(%v) = %v", changed, got)
					}
					if got := impl.IsSearched(changed); got != (sameSearch(changed, other) && at == len(states)-1) {
						t.Fatalf("IsSearched(%v) = %v", changed, got)
					}
				}
			}
			for _, s := range []impl.Search{states[0], states[1], last(states)} {
				for _, far := range append(slices.Clone(farNumbers), len(states), len(states)+1) {
					at, tests := s, s
					at.At, tests.Tests = far, far
					checkNoSearch(t, at)
					checkNoSearch(t, tests)
				}
				fewer, more := s, s
				fewer.Tests--
				more.Tests++
				checkNoSearch(t, fewer)
				checkNoSearch(t, more)
			}
		}
	}
}

// TestIsSearchOneCandidateTooFar expects that the end of a table of fewer columns is none of one with more, and the other way round.
func TestIsSearchOneCandidateTooFar(t *testing.T) {
	for columns := 1; columns <= impl.MaxColumns; columns++ {
		for _, mode := range modes {
			end := last(statesOf(tableOf(columns), mode))
			if end.At != columns<<columns || !impl.IsSearched(end) {
				t.Errorf("IsSearched(%v) = false", end)
			}
			for _, at := range []int{end.At + 1, end.At + columns, 2 * end.At, 1000} {
				end.At = at
				checkNoSearch(t, end)
			}
		}
	}
}

// TestIsSearchOfMode takes the states of one mode for those of the other.
func TestIsSearchOfMode(t *testing.T) {
	different := 0
	for _, table := range append(smallSearchTables(), people, tableOf(4, []int{null, null, 0, 1}, []int{null, null, 0, 1})) {
		equal, apart := statesOf(table, 0), statesOf(table, 1)
		for at := range equal {
			a, b := equal[at], apart[at]
			a.Mode, b.Mode = 1, 0
			if got := impl.IsSearch(a); got != sameSearch(a, apart[at]) {
				t.Fatalf("IsSearch(%v) = %v", a, got)
			}
			if got := impl.IsSearch(b); got != sameSearch(b, equal[at]) {
				t.Fatalf("IsSearch(%v) = %v", b, got)
			}
			if !sameSearch(a, apart[at]) {
				different++
			}
			for _, mode := range badModes {
				a.Mode, b.Mode = mode, mode
				checkNoSearch(t, a)
				checkNoSearch(t, b)
			}
		}
	}
	if different == 0 {
		t.Error("the modes differ nowhere")
	}
}

// TestIsSearchOfTable gives the states of one table to others.
func TestIsSearchOfTable(t *testing.T) {
	tables := []impl.Table{people, crossed, apartPairs, levelTable(4, 1, 0), tableOf(4), tableOf(3), manyRows(40, 5), repeatedRow(40, 1, 1, 1, 1)}
	for _, from := range tables {
		for _, s := range statesOf(from, 0) {
			for _, table := range tables {
				changed := s
				changed.Table = table
				states := statesOf(table, 0)
				want := s.At < len(states) && sameSearch(changed, states[s.At])
				if got := impl.IsSearch(changed); got != want {
					t.Fatalf("IsSearch(%v) = %v", changed, got)
				}
			}
		}
	}
}

func TestSearchOfInvalidTable(t *testing.T) {
	found := []impl.Dep{{Left: 0, Right: 0}, {Left: -5, Right: 77}}
	for _, table := range invalidTables {
		for mode := -1; mode <= 2; mode++ {
			checkNoSearch(t, impl.Search{Table: table, Mode: mode})
			checkNoSearch(t, impl.Search{Table: table, Mode: mode, At: 1, Found: found[:1], Tests: 1})
			checkNoSearch(t, impl.Search{Table: table, Mode: mode, At: 160, Found: found, Tests: 80})
			checkNoSearch(t, impl.Search{Table: table, Mode: mode, At: math.MinInt, Found: found, Tests: math.MaxInt})
		}
	}
	checkNoSearch(t, impl.Search{})
	// one cell that is not valid, in the last row
	for _, cell := range []int{-2, 41, math.MinInt, math.MaxInt} {
		for _, s := range statesOf(people, 0) {
			bad := s
			bad.Table = tableOf(4, slices.Clone(people.Rows)...)
			bad.Table.Rows[3] = []int{3, 0, 0, cell}
			checkNoSearch(t, bad)
		}
	}
}

// TestSearchWithoutFound has nothing found, with memory and without, where this is right and where it is not.
func TestSearchWithoutFound(t *testing.T) {
	nothing := [][]impl.Dep{nil, {}, make([]impl.Dep, 0, 5), []impl.Dep{{Left: 1, Right: 1}}[:0]}
	for _, table := range []impl.Table{people, tableOf(2), tableOf(2, []int{0, 0}, []int{0, 1}, []int{1, 0}, []int{1, 1})} {
		states := statesOf(table, 0)
		for at, s := range states {
			for _, found := range nothing {
				changed := s
				changed.Found = found
				if len(s.Found) > 0 {
					checkNoSearch(t, changed)
					continue
				}
				checkState(t, changed, s)
				if next, ok := impl.StepSearch(changed); ok != (at < len(states)-1) || ok && !sameSearch(next, states[at+1]) {
					t.Fatalf("StepSearch(%v) = %v, %v", changed, next, ok)
				}
				checkRun(t, changed, math.MaxInt, last(states))
			}
		}
	}
}

// TestSearchOfMaxRows has as many columns and rows as there may be.
func TestSearchOfMaxRows(t *testing.T) {
	tables := []impl.Table{repeatedRow(40, 40, 40, 40, 40, 40), repeatedRow(40, null, null, null, null, null), levelTable(5, 2, null), levelTable(5, 2, 40)}
	for columns := 1; columns <= impl.MaxColumns; columns++ {
		for size := range columns {
			tables = append(tables, levelTable(columns, size, 0))
		}
	}
	for _, table := range tables {
		for _, mode := range modes {
			states := statesOf(table, mode)
			for _, s := range []impl.Search{states[0], states[1], states[len(states)/2], states[len(states)-2], last(states)} {
				checkState(t, s, s)
				for _, budget := range []int{0, 1, 10, 100} {
					checkRun(t, s, budget, afterBudget(states, s.At, budget))
				}
			}
		}
	}
	// every candidate whose Right is not in Left is tested
	end := impl.RunSearch(start(t, levelTable(5, 4, 0), 0), math.MaxInt)
	if end.At != 160 || end.Tests != 80 || len(end.Found) != 0 {
		t.Errorf("%d candidates, %d tests and %d found, want 160, 80 and none", end.At, end.Tests, len(end.Found))
	}
}

// searchesChanged are searches that differ from a given one in one field each.
func searchesChanged(s impl.Search) []impl.Search {
	var changed []impl.Search
	add := func(change func(c *impl.Search)) {
		c := s
		change(&c)
		changed = append(changed, c)
	}
	for _, by := range []int{1, -1, 1 << 32, math.MinInt} {
		add(func(c *impl.Search) { c.Mode += by })
		add(func(c *impl.Search) { c.At += by })
		add(func(c *impl.Search) { c.Tests += by })
		add(func(c *impl.Search) { c.Table.Columns += by })
	}
	for _, found := range foundChanged(s.Found, 2) {
		add(func(c *impl.Search) { c.Found = found })
	}
	add(func(c *impl.Search) { c.Table.Rows = append(slices.Clone(c.Table.Rows), nil) })
	add(func(c *impl.Search) { c.Table.Rows = append(slices.Clone(c.Table.Rows), []int{0, 0}) })
	for place, row := range s.Table.Rows {
		others := [][]int{nil, {9}, append(slices.Clone(row), 0), append(slices.Clone(row), row...)}
		for column := range row {
			other := slices.Clone(row)
			other[column] += 5
			others = append(others, other)
		}
		for _, other := range others {
			if !slices.Equal(other, row) {
				add(func(c *impl.Search) {
					c.Table.Rows = slices.Clone(c.Table.Rows)
					c.Table.Rows[place] = other
				})
			}
		}
		add(func(c *impl.Search) { c.Table.Rows = slices.Delete(slices.Clone(c.Table.Rows), place, place+1) })
	}
	return changed
}

func TestEqualSearches(t *testing.T) {
	searches := []impl.Search{
		{},
		{Table: people},
		last(statesOf(people, 1)),
		statesOf(crossed, 0)[30],
		// not valid
		{Table: tableOf(-3, []int{-7, 99}, nil, []int{1, 2, 3}), Mode: 9, At: -4, Found: []impl.Dep{{Left: -1, Right: 70}, {Left: 64, Right: -2}}, Tests: -8},
		{Mode: math.MaxInt, At: math.MinInt, Tests: math.MaxInt},
		{Table: invalidTables[10], Found: []impl.Dep{{}, {}}},
	}
	for at, a := range searches {
		for k, b := range searches {
			if got := impl.EqualSearches(a, b); got != (at == k) {
				t.Errorf("EqualSearches(%v, %v) = %v", a, b, got)
			}
		}
		if !impl.EqualSearches(a, spareSearch(a)) {
			t.Errorf("EqualSearches(%v) of a copy = false", a)
		}
		for _, changed := range searchesChanged(a) {
			if impl.EqualSearches(a, changed) || impl.EqualSearches(changed, a) {
				t.Errorf("EqualSearches(%v, %v) = true", a, changed)
			}
			if !impl.EqualSearches(changed, spareSearch(changed)) {
				t.Errorf("EqualSearches(%v) of a copy = false", changed)
			}
		}
	}
}

// TestEqualSearchesWithoutMemory compares lists that are nil with empty ones.
func TestEqualSearchesWithoutMemory(t *testing.T) {
	a := impl.Search{Table: tableOf(2, nil, []int{}), At: 3}
	b := impl.Search{Table: tableOf(2, []int{}, nil), At: 3, Found: []impl.Dep{}}
	c := impl.Search{Table: impl.Table{Columns: 2, Rows: [][]int{}}, Found: make([]impl.Dep, 0, 3)}
	d := impl.Search{Table: tableOf(2)}
	if !impl.EqualSearches(a, b) || !impl.EqualSearches(b, a) || !impl.EqualSearches(c, d) || !impl.EqualSearches(d, c) {
		t.Error("EqualSearches tells nil from empty lists")
	}
	if impl.EqualSearches(a, d) || impl.EqualSearches(c, b) {
		t.Error("EqualSearches takes rows without values for none")
	}
}

// spareSearch is a copy of a search with marked unused capacity everywhere.
func spareSearch(s impl.Search) impl.Search {
	found := make([]impl.Dep, 0, len(s.Found)+3)
	found = append(found, s.Found...)
	for len(found) < cap(found) {
		found = append(found, impl.Dep{Left: spare, Right: spare})
	}
	s.Table, s.Found = spareTable(s.Table), found[:len(s.Found)]
	return s
}

// wholeSearch writes a search down together with its unused capacity.
func wholeSearch(s impl.Search) string {
	return fmt.Sprint(wholeTable(s.Table), "; ", s.Mode, s.At, s.Tests, len(s.Found), s.Found[:cap(s.Found)])
}

// spoilSearch overwrites everything that a search gives access to.
func spoilSearch(s impl.Search) {
	spoilRows(s.Table.Rows)
	spoilDeps(s.Found)
}

// memorySearches are valid ones, at the start, on their way and at the end, and others.
func memorySearches() []impl.Search {
	var all []impl.Search
	for _, table := range []impl.Table{people, crossed, tableOf(2), tableOf(3, []int{3, null, 1}, []int{3, null, 2}), repeatedRow(2, 1)} {
		for _, mode := range modes {
			states := statesOf(table, mode)
			all = append(all, states[0], states[1], states[len(states)/2], states[len(states)-2], last(states))
		}
	}
	all = append(all, searchesChanged(last(statesOf(crossed, 0)))...)
	for _, table := range invalidTables {
		all = append(all, impl.Search{Table: table, At: 2, Found: []impl.Dep{{Left: 1, Right: 2}, {Left: -3, Right: 40}}, Tests: 2})
	}
	return all
}

// TestSearchesStay compares searches, with their unused capacity, before and after the calls, and after their results were overwritten.
func TestSearchesStay(t *testing.T) {
	for _, s := range memorySearches() {
		a, b := spareSearch(s), spareSearch(s)
		before := wholeSearch(a)
		for range 2 {
			next, _ := impl.StepSearch(a)
			spoilSearch(next)
			for _, budget := range []int{-1, 0, 1, 3, 1000} {
				spoilSearch(impl.RunSearch(a, budget))
			}
			fresh, _ := impl.NewSearch(a.Table, a.Mode)
			spoilSearch(fresh)
			impl.CandidateAt(a)
			impl.IsSearch(a)
			impl.IsSearched(a)
			impl.EqualSearches(a, b)
			impl.EqualSearches(b, a)
		}
		for _, argument := range []impl.Search{a, b} {
			if after := wholeSearch(argument); after != before {
				t.Fatalf("%s became %s", before, after)
			}
		}
	}
}

// TestSearchResultsAreNewMemory changes the argument after the call.
func TestSearchResultsAreNewMemory(t *testing.T) {
	for _, s := range memorySearches() {
		a := spareSearch(s)
		next, _ := impl.StepSearch(a)
		ran, stayed, ended := impl.RunSearch(a, 2), impl.RunSearch(a, 0), impl.RunSearch(a, 1000)
		fresh, _ := impl.NewSearch(a.Table, a.Mode)
		results := []impl.Search{next, ran, stayed, ended, fresh}
		var before []string
		for _, result := range results {
			before = append(before, wholeSearch(result))
		}
		if !sameSearch(stayed, s) {
			t.Fatalf("RunSearch(%v, 0) = %v", s, stayed)
		}
		spoilSearch(a)
		for at, result := range results {
			if after := wholeSearch(result); after != before[at] {
				t.Fatalf("%s became %s", before[at], after)
			}
			// Each result in turn is overwritten too.
			spoilSearch(result)
		}
	}
}

// TestSearchesGoOnApart continues two searches from the same one, whose list has room for more, and from results of their own.
func TestSearchesGoOnApart(t *testing.T) {
	for _, table := range []impl.Table{people, crossed, levelTable(5, 1, 0), tableOf(3)} {
		states := statesOf(table, 0)
		for at := 0; at < len(states); at += 3 {
			base := impl.RunSearch(spareSearch(states[at]), 1)
			one, _ := impl.StepSearch(base)
			two := impl.RunSearch(base, 3)
			want := []string{wholeSearch(base), wholeSearch(one), wholeSearch(two)}
			three := impl.RunSearch(one, 2)
			four := impl.RunSearch(base, 1000)
			five, _ := impl.StepSearch(two)
			for _, s := range []impl.Search{three, four, five} {
				if !impl.IsSearch(s) {
					t.Fatalf("IsSearch(%v) = false", s)
				}
				spoilSearch(s)
			}
			if got := []string{wholeSearch(base), wholeSearch(one), wholeSearch(two)}; !slices.Equal(got, want) {
				t.Fatalf("%q became %q", want, got)
			}
		}
	}
}

// TestSearchRowsAreApart has one row in several places of the argument, which is several rows in the result.
func TestSearchRowsAreApart(t *testing.T) {
	row := []int{1, 2, 3}
	table := tableOf(3, row, row, row[:3:3], row)
	fresh := start(t, table, 0)
	next, _ := impl.StepSearch(impl.Search{Table: table})
	bad := impl.Search{Table: table, Mode: 5, At: 7}
	same, _ := impl.StepSearch(bad)
	for _, s := range []impl.Search{fresh, next, impl.RunSearch(fresh, 9), same, impl.RunSearch(bad, 9)} {
		checkOwnRows(t, s.Table.Rows)
	}
}

// TestSearchOfUnusedCapacity has a row and a dependency behind the end of the lists, within their capacity.
func TestSearchOfUnusedCapacity(t *testing.T) {
	rows := [][]int{{1, 1}, {2, 1}, {2, 2}}
	found := []impl.Dep{{Left: 0, Right: 1}, {Left: 1, Right: 1}}
	table := impl.Table{Columns: 2, Rows: rows[:2]}
	s := impl.Search{Table: table, At: 2, Found: found[:1], Tests: 2}
	checkState(t, s, statesOf(table, 0)[2])
	checkRun(t, s, 1000, last(statesOf(table, 0)))
	s.Table.Rows = rows
	checkNoSearch(t, s)
	s.Table.Rows, s.Found = rows[:2], found
	checkNoSearch(t, s)
}

// TestSearchEveryTime makes the same calls many times.
func TestSearchEveryTime(t *testing.T) {
	states := statesOf(people, 0)
	for range 300 {
		checkState(t, states[20], states[20])
		checkRun(t, start(t, people, 0), 13, states[19])
		checkRun(t, states[19], 5, states[57])
		if next, ok := impl.StepSearch(states[5]); !ok || !sameSearch(next, states[6]) {
			t.Fatalf("StepSearch(%v) = %v, %v", states[5], next, ok)
		}
	}
}
