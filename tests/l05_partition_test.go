package tests

import (
	"fmt"
	"math"
	"math/rand"
	"slices"
	"strings"
	"testing"

	"loop.example/g01988/impl"
)

// Promise 3, for partitions: the partition of a set is the product of those of its columns, and its classes are those of the rows that AgreeOf says are equal in all columns of the set.

// classes are written as a list of places of rows each.
type classes = [][]int

// allRows is the list of so many places.
func allRows(rows int) []int {
	var l []int
	for row := range rows {
		l = append(l, row)
	}
	return l
}

// slowClasses collects, for each row that is in no class yet, the later ones that belong to it.
func slowClasses(rows int, together func(i, k int) bool) classes {
	var p classes
	placed := map[int]bool{}
	for i := range rows {
		if placed[i] {
			continue
		}
		class := []int{i}
		for k := i + 1; k < rows; k++ {
			if together(i, k) {
				class = append(class, k)
				placed[k] = true
			}
		}
		if len(class) > 1 {
			p = append(p, class)
		}
	}
	return p
}

// slowPartition compares rows cell by cell.
func slowPartition(t impl.Table, mode, set int) classes {
	return slowClasses(len(t.Rows), func(i, k int) bool {
		for column := range t.Columns {
			if set>>column&1 == 1 && !slowEqual(mode, t.Rows[i][column], t.Rows[k][column]) {
				return false
			}
		}
		return true
	})
}

func inOneClass(p classes, i, k int) bool {
	return slices.ContainsFunc(p, func(class []int) bool {
		return slices.Contains(class, i) && slices.Contains(class, k)
	})
}

func slowProduct(p, q classes, rows int) classes {
	return slowClasses(rows, func(i, k int) bool { return inOneClass(p, i, k) && inOneClass(q, i, k) })
}

// slowIsPartition checks each demand for all places.
func slowIsPartition(p classes, rows int) bool {
	if rows < 0 || rows > 40 {
		return false
	}
	times := map[int]int{}
	for i, class := range p {
		if len(class) < 2 {
			return false
		}
		for k, row := range class {
			times[row]++
			if row < 0 || row >= rows || times[row] > 1 || k > 0 && class[k-1] >= row {
				return false
			}
		}
		if i > 0 && p[i-1][0] >= class[0] {
			return false
		}
	}
	return true
}

// slowIsFiner looks for a class of q that is the first one with each of the rows.
func slowIsFiner(p, q classes) bool {
	home := func(row int) int {
		return slices.IndexFunc(q, func(class []int) bool { return slices.Contains(class, row) })
	}
	for _, class := range p {
		found := false
		for place := range q {
			found = found || !slices.ContainsFunc(class, func(row int) bool { return home(row) != place })
		}
		if !found {
			return false
		}
	}
	return true
}

func spareClasses(p classes) classes {
	return spareTable(impl.Table{Rows: p}).Rows
}

func wholeClasses(p classes) string {
	return wholeTable(impl.Table{Rows: p})
}

// randomPartition divides so many rows among few classes and leaves out the rows that are alone.
func randomPartition(r *rand.Rand, rows int) classes {
	class := make([]int, rows)
	for row := range class {
		class[row] = r.Intn(1 + r.Intn(rows+1))
	}
	return slowClasses(rows, func(i, k int) bool { return class[i] == class[k] })
}

// randomClasses are any classes: they overlap, have rows twice or none, and are in no order.
func randomClasses(r *rand.Rand) classes {
	p := make(classes, r.Intn(4))
	for i := range p {
		p[i] = make([]int, r.Intn(4))
		for k := range p[i] {
			p[i][k] = r.Intn(6) - 1
		}
	}
	return p
}

func TestPartitionOf(t *testing.T) {
	cases := []struct {
		table        impl.Table
		set          int
		equal, apart classes
	}{
		{agreeTable, 0, classes{{0, 1, 2, 3}}, classes{{0, 1, 2, 3}}},
		{agreeTable, 1, classes{{0, 1}, {2, 3}}, classes{{0, 1}, {2, 3}}},
		{agreeTable, 2, classes{{0, 1, 2}}, nil},
		{agreeTable, 4, classes{{1, 2, 3}}, classes{{1, 2, 3}}},
		{agreeTable, 8, classes{{0, 2}, {1, 3}}, classes{{0, 2}}},
		{agreeTable, 16, classes{{0, 1}, {2, 3}}, classes{{2, 3}}},
		{agreeTable, 3, classes{{0, 1}}, nil},
		{agreeTable, 5, classes{{2, 3}}, classes{{2, 3}}},
		{agreeTable, 6, classes{{1, 2}}, nil},
		{agreeTable, 17, classes{{0, 1}, {2, 3}}, classes{{2, 3}}},
		{agreeTable, 20, classes{{2, 3}}, classes{{2, 3}}},
		{agreeTable, 31, nil, nil},
		// a null in both rows, in the first, in the second and in none
		{tableOf(1, []int{null}, []int{null}), 1, classes{{0, 1}}, nil},
		{tableOf(1, []int{null}, []int{0}), 1, nil, nil},
		{tableOf(1, []int{0}, []int{null}), 1, nil, nil},
		{tableOf(1, []int{0}, []int{0}), 1, classes{{0, 1}}, classes{{0, 1}}},
		// nulls outside the set
		{tableOf(2, []int{3, null}, []int{3, null}), 1, classes{{0, 1}}, classes{{0, 1}}},
		{tableOf(2, []int{null, 3}, []int{5, 3}), 2, classes{{0, 1}}, classes{{0, 1}}},
		{tableOf(3, []int{3, null, 4}, []int{3, 0, 4}), 5, classes{{0, 1}}, classes{{0, 1}}},
		// one null in the set is enough
		{tableOf(3, []int{3, null, 4}, []int{3, null, 4}), 7, classes{{0, 1}}, nil},
		{tableOf(3, []int{3, null, 4}, []int{3, null, 4}), 6, classes{{0, 1}}, nil},
		// a row with a null between rows that are equal
		{tableOf(1, []int{7}, []int{null}, []int{7}, []int{null}, []int{7}), 1, classes{{0, 2, 4}, {1, 3}}, classes{{0, 2, 4}}},
		// the values in columns are not added up
		{tableOf(2, []int{1, 2}, []int{2, 1}, []int{1, 2}, []int{2, 1}), 3, classes{{0, 2}, {1, 3}}, classes{{0, 2}, {1, 3}}},
		{tableOf(2, []int{1, 0}, []int{0, 1}, []int{11, 1}, []int{1, 11}), 3, nil, nil},
		{tableOf(2, []int{0, 1}, []int{1, 0}), 1, nil, nil},
	}
	for _, c := range cases {
		if got := impl.PartitionOf(c.table, impl.NullsEqual, c.set); !sameRows(got, c.equal) {
			t.Errorf("PartitionOf(%v, NullsEqual, %d) = %v, want %v", c.table, c.set, got, c.equal)
		}
		if got := impl.PartitionOf(c.table, impl.NullsApart, c.set); !sameRows(got, c.apart) {
			t.Errorf("PartitionOf(%v, NullsApart, %d) = %v, want %v", c.table, c.set, got, c.apart)
		}
	}
}

// TestPartitionOfOrder has values in other orders than their first rows.
func TestPartitionOfOrder(t *testing.T) {
	cases := []struct {
		values []int
		want   classes
	}{
		{[]int{5, 3, 5, 3, 1, 1}, classes{{0, 2}, {1, 3}, {4, 5}}},
		{[]int{1, 1, 3, 5, 3, 5}, classes{{0, 1}, {2, 4}, {3, 5}}},
		{[]int{9, 8, 7, 7, 8, 9}, classes{{0, 5}, {1, 4}, {2, 3}}},
		{[]int{7, 8, 9, 9, 8, 7}, classes{{0, 5}, {1, 4}, {2, 3}}},
		{[]int{4, 0, 0, 4, 0, 4}, classes{{0, 3, 5}, {1, 2, 4}}},
		// a row that is alone before, between and behind the others
		{[]int{2, 6, 6, 3, 5, 5, 1}, classes{{1, 2}, {4, 5}}},
		{[]int{40, 2, 0, 2, 10, 40}, classes{{0, 5}, {1, 3}}},
	}
	for _, c := range cases {
		table := tableOf(1)
		for _, value := range c.values {
			table.Rows = append(table.Rows, []int{value})
		}
		for _, mode := range modes {
			if got := impl.PartitionOf(table, mode, 1); !sameRows(got, c.want) {
				t.Errorf("PartitionOf(%v, %d, 1) = %v, want %v", table, mode, got, c.want)
			}
		}
	}
}

// TestPartitionOfEverySet compares with the rows cell by cell.
func TestPartitionOfEverySet(t *testing.T) {
	for _, table := range agreeTables() {
		for _, mode := range modes {
			for set := range 1 << table.Columns {
				got, want := impl.PartitionOf(table, mode, set), slowPartition(table, mode, set)
				if !sameRows(got, want) {
					t.Fatalf("PartitionOf(%v, %d, %d) = %v, want %v", table, mode, set, got, want)
				}
				if !impl.IsPartition(got, len(table.Rows)) {
					t.Fatalf("PartitionOf(%v, %d, %d) = %v is not a partition", table, mode, set, got)
				}
			}
		}
	}
}

// TestPartitionOfAgrees looks for the set in AgreeOf for each pair of rows.
func TestPartitionOfAgrees(t *testing.T) {
	for at, table := range agreeTables() {
		if at%4 != 0 {
			continue
		}
		for _, mode := range modes {
			for set := range 1 << table.Columns {
				p := impl.PartitionOf(table, mode, set)
				for i := range table.Rows {
					for k := range i {
						agreed := set&^impl.AgreeOf(table, mode, i, k) == 0
						if agreed != inOneClass(p, i, k) {
							t.Fatalf("PartitionOf(%v, %d, %d) = %v, but AgreeOf says %v for %d and %d", table, mode, set, p, agreed, i, k)
						}
					}
				}
			}
		}
	}
}

// TestPartitionOfAllRows has one class of all rows or none, where there are less than two.
func TestPartitionOfAllRows(t *testing.T) {
	for columns := 1; columns <= 5; columns++ {
		for rows := 0; rows <= 40; rows++ {
			var want classes
			if rows >= 2 {
				want = classes{allRows(rows)}
			}
			same := repeatedRow(rows, []int{0, 1, 2, 40, 4}[:columns]...)
			nulls := repeatedRow(rows, []int{null, null, null, null, null}[:columns]...)
			apart := manyRows(rows, columns)
			for _, mode := range modes {
				for set := range 1 << columns {
					if got := impl.PartitionOf(same, mode, set); !sameRows(got, want) {
						t.Fatalf("PartitionOf(%v, %d, %d) = %v, want %v", same, mode, set, got, want)
					}
					got := impl.PartitionOf(nulls, mode, set)
					if mode == impl.NullsApart && set != 0 {
						if len(got) != 0 {
							t.Fatalf("PartitionOf(%v, %d, %d) = %v, want nothing", nulls, mode, set, got)
						}
					} else if !sameRows(got, want) {
						t.Fatalf("PartitionOf(%v, %d, %d) = %v, want %v", nulls, mode, set, got, want)
					}
					got = impl.PartitionOf(apart, mode, set)
					if set != 0 && len(got) != 0 || set == 0 && !sameRows(got, want) {
						t.Fatalf("PartitionOf(%v, %d, %d) = %v", apart, mode, set, got)
					}
				}
			}
		}
	}
}

// TestPartitionOfEachPlace has one pair of equal rows, at each two places.
func TestPartitionOfEachPlace(t *testing.T) {
	for k := range impl.MaxRows {
		for i := range k {
			table := manyRows(impl.MaxRows, 3)
			table.Rows[k][1] = table.Rows[i][1]
			for _, mode := range modes {
				if got := impl.PartitionOf(table, mode, 2); !sameRows(got, classes{{i, k}}) {
					t.Fatalf("PartitionOf(%v, %d, 2) = %v, want %d and %d", table, mode, got, i, k)
				}
				if got := impl.PartitionOf(table, mode, 3); len(got) != 0 {
					t.Fatalf("PartitionOf(%v, %d, 3) = %v, want nothing", table, mode, got)
				}
			}
		}
	}
}

func TestPartitionOfInvalid(t *testing.T) {
	for _, table := range append(agreeTables()[:40], agreeTable, repeatedRow(40, 1, 2)) {
		all := 1<<table.Columns - 1
		for _, mode := range modes {
			for _, set := range []int{math.MinInt, math.MinInt + 1, -1 - all, -2, -1, all + 1, all + 2, 2*all + 1, 32, 33, 64, 1 << 32, 1 << 62, math.MaxInt} {
				if got := impl.PartitionOf(table, mode, set); len(got) != 0 {
					t.Fatalf("PartitionOf(%v, %d, %d) = %v, want nothing", table, mode, set, got)
				}
			}
		}
		for _, mode := range badModes {
			for set := -1; set <= all+1; set++ {
				if got := impl.PartitionOf(table, mode, set); len(got) != 0 {
					t.Fatalf("PartitionOf(%v, %d, %d) = %v, want nothing", table, mode, set, got)
				}
			}
		}
	}
	for _, bad := range invalidTables {
		for mode := -1; mode <= 2; mode++ {
			for set := -1; set <= 128; set++ {
				if got := impl.PartitionOf(bad, mode, set); len(got) != 0 {
					t.Fatalf("PartitionOf(%v, %d, %d) = %v, want nothing", bad, mode, set, got)
				}
			}
		}
	}
}

// TestPartitionOfUnusedCapacity has an equal row behind the end of the list, within its capacity.
func TestPartitionOfUnusedCapacity(t *testing.T) {
	rows := [][]int{{1}, {1}, {1}}
	if got := impl.PartitionOf(impl.Table{Columns: 1, Rows: rows[:2]}, impl.NullsEqual, 1); !sameRows(got, classes{{0, 1}}) {
		t.Errorf("PartitionOf with a row in the unused capacity = %v", got)
	}
	if got := impl.PartitionOf(impl.Table{Columns: 1, Rows: rows[:1]}, impl.NullsEqual, 1); len(got) != 0 {
		t.Errorf("PartitionOf with rows in the unused capacity = %v", got)
	}
}

func TestProductOf(t *testing.T) {
	cases := []struct {
		p, q classes
		rows int
		want classes
	}{
		{nil, nil, 0, nil},
		{nil, nil, 40, nil},
		// with itself, and with an empty one
		{classes{{0, 1}}, classes{{0, 1}}, 2, classes{{0, 1}}},
		{classes{{0, 2, 5}, {1, 4}}, classes{{0, 2, 5}, {1, 4}}, 6, classes{{0, 2, 5}, {1, 4}}},
		{classes{{0, 2, 5}, {1, 4}}, nil, 6, nil},
		{classes{{0, 2, 5}, {1, 4}}, classes{}, 6, nil},
		// with the class of all rows
		{classes{{0, 1, 2, 3, 4, 5}}, classes{{0, 2, 5}, {1, 4}}, 6, classes{{0, 2, 5}, {1, 4}}},
		{classes{{0, 1, 2, 3, 4, 5}}, classes{{0, 1, 2, 3, 4, 5}}, 6, classes{{0, 1, 2, 3, 4, 5}}},
		// a class falls into several ones
		{classes{{0, 1, 2, 3}}, classes{{0, 1}, {2, 3}}, 4, classes{{0, 1}, {2, 3}}},
		{classes{{0, 1, 2, 3, 4, 5}}, classes{{0, 3}, {1, 4}, {2, 5}}, 6, classes{{0, 3}, {1, 4}, {2, 5}}},
		{classes{{0, 1, 2, 3, 4}, {5, 6, 7}}, classes{{0, 2, 5, 6}, {1, 4, 7}}, 8, classes{{0, 2}, {1, 4}, {5, 6}}},
		// into single rows
		{classes{{0, 1}, {2, 3}}, classes{{0, 2}, {1, 3}}, 4, nil},
		{classes{{0, 1, 2}}, classes{{0, 3}, {1, 4}, {2, 5}}, 6, nil},
		{classes{{0, 1, 2}}, classes{{0, 1}}, 3, classes{{0, 1}}},
		{classes{{0, 1, 2}}, classes{{1, 2}}, 3, classes{{1, 2}}},
		// vanishes
		{classes{{0, 1}, {2, 3}}, classes{{2, 3}}, 4, classes{{2, 3}}},
		{classes{{0, 1}}, classes{{2, 3}}, 4, nil},
		{classes{{0, 1, 2}, {3, 4}}, classes{{1, 2}, {3, 5}}, 6, classes{{1, 2}}},
		// rows without a class are not in the same one
		{classes{{0, 1, 2, 3}}, classes{{4, 5}}, 6, nil},
		{classes{{0, 1, 2, 3}}, classes{{0, 5}}, 6, nil},
		// the places of the classes are exchanged
		{classes{{0, 1}, {2, 3}}, classes{{0, 5}, {1, 4}, {2, 3}}, 6, classes{{2, 3}}},
		{classes{{0, 3}, {1, 2}}, classes{{0, 3}, {1, 2}}, 4, classes{{0, 3}, {1, 2}}},
		// the result is in the order of neither
		{classes{{0, 4, 5}, {1, 2}}, classes{{0, 3}, {1, 2}, {4, 5}}, 6, classes{{1, 2}, {4, 5}}},
		{classes{{0, 6, 7}, {1, 2, 3}, {4, 5}}, classes{{0, 4, 5}, {1, 6, 7}, {2, 3}}, 8, classes{{2, 3}, {4, 5}, {6, 7}}},
		// as many rows as there may be
		{classes{allRows(40)}, classes{{0, 39}, {2, 38}}, 40, classes{{0, 39}, {2, 38}}},
		{classes{allRows(40)}, classes{allRows(40)}, 40, classes{allRows(40)}},
		{classes{{0, 1}}, classes{{0, 1}}, 40, classes{{0, 1}}},
	}
	for _, c := range cases {
		if got := impl.ProductOf(c.p, c.q, c.rows); !sameRows(got, c.want) {
			t.Errorf("ProductOf(%v, %v, %d) = %v, want %v", c.p, c.q, c.rows, got, c.want)
		}
		if got := impl.ProductOf(c.q, c.p, c.rows); !sameRows(got, c.want) {
			t.Errorf("ProductOf(%v, %v, %d) = %v, want %v", c.q, c.p, c.rows, got, c.want)
		}
	}
}

// TestProductOfPartitions compares with the pairs of rows for partitions of no table.
func TestProductOfPartitions(t *testing.T) {
	r := rand.New(rand.NewSource(8))
	for range 3000 {
		rows := r.Intn(impl.MaxRows + 1)
		p, q := randomPartition(r, rows), randomPartition(r, rows)
		got, want := impl.ProductOf(p, q, rows), slowProduct(p, q, rows)
		if !sameRows(got, want) {
			t.Fatalf("ProductOf(%v, %v, %d) = %v, want %v", p, q, rows, got, want)
		}
		if !impl.IsPartition(got, rows) || !impl.IsFiner(got, p) || !impl.IsFiner(got, q) {
			t.Fatalf("ProductOf(%v, %v, %d) = %v is no finer partition", p, q, rows, got)
		}
		if again := impl.ProductOf(p, p, rows); !sameRows(again, p) {
			t.Fatalf("ProductOf(%v, %v, %d) = %v", p, p, rows, again)
		}
		if got := impl.ProductOf(p, nil, rows); len(got) != 0 {
			t.Fatalf("ProductOf(%v, nil, %d) = %v", p, rows, got)
		}
	}
}

// TestProductIsPartitionOfUnion takes each two sets of columns.
func TestProductIsPartitionOfUnion(t *testing.T) {
	for at, table := range agreeTables() {
		if at%8 != 0 {
			continue
		}
		for _, mode := range modes {
			for x := range 1 << table.Columns {
				for y := range 1 << table.Columns {
					p, q := impl.PartitionOf(table, mode, x), impl.PartitionOf(table, mode, y)
					got, want := impl.ProductOf(p, q, len(table.Rows)), impl.PartitionOf(table, mode, x|y)
					if !sameRows(got, want) {
						t.Fatalf("%v, mode %d: the product for %d and %d is %v, but the partition is %v", table, mode, x, y, got, want)
					}
					if !impl.IsFiner(got, p) || !impl.IsFiner(got, q) {
						t.Fatalf("%v, mode %d: the partition for %d is not finer than those for %d and %d", table, mode, x|y, x, y)
					}
				}
			}
		}
	}
}

// TestPartitionIsProductOfColumns begins with the class of all rows.
func TestPartitionIsProductOfColumns(t *testing.T) {
	for _, table := range agreeTables() {
		for _, mode := range modes {
			for set := range 1 << table.Columns {
				got := impl.PartitionOf(table, mode, 0)
				for column := range table.Columns {
					if set>>column&1 == 1 {
						got = impl.ProductOf(got, impl.PartitionOf(table, mode, 1<<column), len(table.Rows))
					}
				}
				if want := impl.PartitionOf(table, mode, set); !sameRows(got, want) {
					t.Fatalf("%v, mode %d: the product of the columns of %d is %v, but the partition is %v", table, mode, set, got, want)
				}
			}
		}
	}
}

// notPartitions are no partitions of six rows, with one thing wrong.
var notPartitions = []classes{
	{{}},
	{nil},
	{{0}},
	{{5}},
	{{0, 1}, {}},
	{{}, {0, 1}},
	{{0, 1}, {2}},
	{{0}, {1, 2}},
	{{-1, 0}},
	{{-1, 5}},
	{{0, 1}, {-1, 2}},
	{{0, 6}},
	{{5, 6}},
	{{0, 1}, {2, 6}},
	{{6, 7}},
	{{0, 40}},
	{{0, 41}},
	{{39, 40}},
	{{0, math.MaxInt}},
	{{math.MinInt, 0}},
	{{math.MinInt, math.MaxInt}},
	{{math.MaxInt, math.MinInt}},
	{{0, 1 << 32}},
	{{0, 1<<32 + 1}},
	{{0, 0}},
	{{0, 0, 1}},
	{{0, 1, 1}},
	{{1, 0}},
	{{0, 2, 1}},
	{{1, 0, 2}},
	{{0, 1}, {3, 2}},
	{{2, 3}, {0, 1}},
	{{0, 1}, {4, 5}, {2, 3}},
	{{1, 5}, {0, 4}},
	{{0, 1}, {0, 1}},
	{{0, 1}, {0, 2}},
	{{0, 1}, {1, 2}},
	{{0, 2}, {1, 2}},
	{{0, 5}, {1, 3}, {2, 5}},
	{{0, 1}, {2, 3}, {3, 4}},
}

func TestProductOfInvalid(t *testing.T) {
	good := []classes{nil, {{0, 1}}, {{0, 1, 2, 3, 4, 5}}, {{0, 1}, {2, 3}, {4, 5}}, {{0, 5}, {1, 4}, {2, 3}}}
	for _, bad := range notPartitions {
		for _, p := range append(good, bad) {
			if got := impl.ProductOf(p, bad, 6); len(got) != 0 {
				t.Errorf("ProductOf(%v, %v, 6) = %v, want nothing", p, bad, got)
			}
			if got := impl.ProductOf(bad, p, 6); len(got) != 0 {
				t.Errorf("ProductOf(%v, %v, 6) = %v, want nothing", bad, p, got)
			}
		}
	}
	p := classes{{0, 1, 2, 3, 4, 5}}
	for _, rows := range []int{math.MinInt, -1, 0, 1, 2, 5, 41, 42, 64, 1 << 32, math.MaxInt} {
		if got := impl.ProductOf(p, p, rows); len(got) != 0 {
			t.Errorf("ProductOf(%v, %v, %d) = %v, want nothing", p, p, rows, got)
		}
		// Only one of them has too great a row.
		few := classes{{0, 1}}
		if rows >= 2 && rows <= 40 {
			if got := impl.ProductOf(few, few, rows); !sameRows(got, few) {
				t.Errorf("ProductOf(%v, %v, %d) = %v", few, few, rows, got)
			}
		}
		if got := impl.ProductOf(few, p, rows); len(got) != 0 {
			t.Errorf("ProductOf(%v, %v, %d) = %v, want nothing", few, p, rows, got)
		}
		if got := impl.ProductOf(p, few, rows); len(got) != 0 {
			t.Errorf("ProductOf(%v, %v, %d) = %v, want nothing", p, few, rows, got)
		}
	}
}

func TestIsPartition(t *testing.T) {
	good := []classes{
		nil,
		{},
		{{0, 1}},
		{{0, 5}},
		{{4, 5}},
		{{0, 1, 2, 3, 4, 5}},
		{{0, 1}, {2, 3}, {4, 5}},
		{{0, 5}, {1, 4}, {2, 3}},
		{{1, 3, 5}, {2, 4}},
	}
	for _, p := range good {
		if !impl.IsPartition(p, 6) || !impl.IsPartition(p, 40) {
			t.Errorf("IsPartition(%v) = false", p)
		}
	}
	for _, p := range notPartitions {
		if impl.IsPartition(p, 6) {
			t.Errorf("IsPartition(%v, 6) = true", p)
		}
	}
}

func TestIsPartitionRowCounts(t *testing.T) {
	var pairs classes
	for row := 0; row < 40; row += 2 {
		pairs = append(pairs, []int{row, row + 1})
	}
	cases := []struct {
		p     classes
		least int
	}{
		{nil, 0},
		{classes{}, 0},
		{classes{{0, 1}}, 2},
		{classes{{0, 38}}, 39},
		{classes{{0, 39}}, 40},
		{classes{{38, 39}}, 40},
		{classes{{0, 40}}, 41},
		{classes{allRows(40)}, 40},
		{classes{allRows(41)}, 41},
		{pairs, 40},
		{append(slices.Clone(pairs), []int{40, 41}), 42},
	}
	counts := []int{math.MinInt, -64, -40, 1 << 31, 1 << 32, 1<<32 + 40, math.MaxInt}
	for rows := -3; rows <= 90; rows++ {
		counts = append(counts, rows)
	}
	for _, c := range cases {
		for _, rows := range counts {
			want := rows >= c.least && rows <= 40
			if got := impl.IsPartition(c.p, rows); got != want {
				t.Errorf("IsPartition(%v, %d) = %v, want %v", c.p, rows, got, want)
			}
		}
	}
}

// TestIsPartitionAll tries all lists of at most two classes of at most three rows.
func TestIsPartitionAll(t *testing.T) {
	all := classes{{}}
	for at := 0; len(all[at]) < 3; at++ {
		for row := -1; row <= 4; row++ {
			all = append(all, append(slices.Clone(all[at]), row))
		}
	}
	check := func(p classes) {
		for rows := 2; rows <= 5; rows++ {
			if got, want := impl.IsPartition(p, rows), slowIsPartition(p, rows); got != want {
				t.Fatalf("IsPartition(%v, %d) = %v, want %v", p, rows, got, want)
			}
		}
	}
	for _, a := range all {
		check(classes{a})
		for _, b := range all {
			check(classes{a, b})
		}
	}
}

// TestIsPartitionEdits changes one row of a partition, or exchanges two classes.
func TestIsPartitionEdits(t *testing.T) {
	r := rand.New(rand.NewSource(9))
	check := func(p classes, rows int) {
		for _, count := range []int{rows - 1, rows, rows + 1} {
			if got, want := impl.IsPartition(p, count), slowIsPartition(p, count); got != want {
				t.Fatalf("IsPartition(%v, %d) = %v, want %v", p, count, got, want)
			}
		}
	}
	for range 3000 {
		rows := r.Intn(impl.MaxRows + 1)
		p := randomPartition(r, rows)
		check(p, rows)
		if len(p) == 0 {
			continue
		}
		class := p[r.Intn(len(p))]
		place := r.Intn(len(class))
		before := class[place]
		class[place] = r.Intn(rows+2) - 1
		check(p, rows)
		class[place] = before
		i, k := r.Intn(len(p)), r.Intn(len(p))
		p[i], p[k] = p[k], p[i]
		check(p, rows)
	}
}

func TestErrorOf(t *testing.T) {
	cases := []struct {
		p    classes
		want int
	}{
		{nil, 0},
		{classes{}, 0},
		{classes{{0, 1}}, 1},
		{classes{{0, 1, 2, 3}}, 3},
		{classes{{0, 1}, {2, 3, 4}}, 3},
		{classes{{0, 5}, {1, 4}, {2, 3}}, 3},
		{classes{allRows(40)}, 39},
		// classes without rows, and of one row
		{classes{{}}, 0},
		{classes{nil, {}, nil}, 0},
		{classes{{}, {0, 1, 2}, {}}, 2},
		{classes{{5}}, 0},
		{classes{{5}, {}, {6}, {7, 8}}, 1},
		// any rows, and rows that occur several times
		{classes{{-1, -1, -1}}, 2},
		{classes{{0, 1}, {0, 1}, {1, 0}}, 3},
		{classes{{math.MaxInt, math.MinInt}, {1000, 2000, 3000}}, 3},
		{classes{allRows(1000), allRows(500)}, 1498},
	}
	for _, c := range cases {
		if got := impl.ErrorOf(c.p); got != c.want {
			t.Errorf("ErrorOf(%v) = %d, want %d", c.p, got, c.want)
		}
	}
}

// TestErrorOfTables counts the rows that are left over when each different one is kept once.
func TestErrorOfTables(t *testing.T) {
	for _, table := range agreeTables() {
		for set := 1; set < 1<<table.Columns; set++ {
			got := impl.ErrorOf(impl.PartitionOf(table, impl.NullsEqual, set))
			if want := len(table.Rows) - len(slowProjection(table, set).Rows); got != want {
				t.Fatalf("ErrorOf the partition of %v for %d = %d, want %d", table, set, got, want)
			}
		}
	}
}

func TestIsFiner(t *testing.T) {
	cases := []struct {
		p, q classes
		want bool
	}{
		// one of them or both are empty
		{nil, nil, true},
		{nil, classes{}, true},
		{nil, classes{{0, 1}}, true},
		{nil, classes{{}}, true},
		{classes{{0, 1}}, nil, false},
		{classes{{0}}, nil, false},
		// ordinary partitions
		{classes{{0, 1}}, classes{{0, 1}}, true},
		{classes{{0, 1}}, classes{{0, 1, 2}}, true},
		{classes{{0, 1, 2}}, classes{{0, 1}}, false},
		{classes{{0, 2}, {1, 3}}, classes{{0, 1, 2, 3}}, true},
		{classes{{0, 1, 2, 3}}, classes{{0, 2}, {1, 3}}, false},
		{classes{{0, 1}, {2, 3}}, classes{{0, 1, 4}, {2, 3, 5}}, true},
		{classes{{2, 3}, {0, 1}}, classes{{0, 1, 4}, {2, 3, 5}}, true},
		{classes{{0, 1}, {2, 4}}, classes{{0, 1, 4}, {2, 3, 5}}, false},
		{classes{{0, 2}, {1, 3}}, classes{{0, 1}, {2, 3}}, false},
		// rows in no class of q
		{classes{{0, 7}}, classes{{0, 1}}, false},
		{classes{{7, 0}}, classes{{0, 1}}, false},
		{classes{{7, 8}}, classes{{0, 1}}, false},
		{classes{{7}}, classes{{0, 1}}, false},
		{classes{{0, 1}, {7, 8}}, classes{{0, 1}}, false},
		{classes{{0, 1, 7}}, classes{{0, 1}, {7, 8}}, false},
		// classes without rows
		{classes{{}}, classes{{0, 1}}, true},
		{classes{{}}, classes{{}}, true},
		{classes{nil, {0, 1}, {}}, classes{{0, 1}}, true},
		{classes{{}, {0, 2}}, classes{{0, 1}}, false},
		{classes{{0, 1}}, classes{{}}, false},
		{classes{{0, 1}}, classes{{}, nil, {0, 1}}, true},
		// there is no class of q at all, not even for a class without rows
		{classes{{}}, nil, false},
		{classes{{}, {}}, classes{}, false},
		// classes of q that overlap: the first one that has the row counts
		{classes{{1, 2}}, classes{{1, 2}, {1, 3}}, true},
		{classes{{1, 2}}, classes{{1, 3}, {1, 2}}, false},
		{classes{{1, 2}}, classes{{2, 3}, {1, 2}}, false},
		{classes{{2, 1}}, classes{{2, 3}, {1, 2}}, false},
		{classes{{2, 1}}, classes{{1}, {1, 2}}, false},
		{classes{{2}}, classes{{1}, {1, 2}}, true},
		{classes{{2, 3}}, classes{{1}, {1, 2, 3}}, true},
		{classes{{1, 2}}, classes{{1, 2}, {1, 2}}, true},
		{classes{{1, 2}, {2, 3}}, classes{{1, 2, 3}, {3, 4}}, true},
		{classes{{3, 4}}, classes{{1, 2, 3}, {3, 4}}, false},
		{classes{{4}}, classes{{1, 2, 3}, {3, 4}}, true},
		// classes of p that overlap
		{classes{{0, 1}, {0, 2}, {1, 2}}, classes{{0, 1, 2}}, true},
		{classes{{0, 1}, {0, 1}}, classes{{0, 1}}, true},
		{classes{{0, 1}, {1, 2}}, classes{{0, 1}, {2, 3}}, false},
		// rows twice and in any order
		{classes{{1, 1, 1}}, classes{{1}}, true},
		{classes{{1, 2}}, classes{{2, 1, 2, 1}}, true},
		{classes{{3, 0, 2}}, classes{{0, 1, 2, 3}}, true},
		{classes{{0, 3}}, classes{{3, 2, 1, 0}}, true},
		// rows that no table has
		{classes{{-1, -5}}, classes{{-5, -1}}, true},
		{classes{{-1}}, classes{{0, 1}}, false},
		{classes{{-1, 0}}, classes{{0, 1}, {-1, 2}}, false},
		{classes{{40, 41}}, classes{{0, 1}, {40, 41, 1000}}, true},
		{classes{{math.MinInt, math.MaxInt}}, classes{{math.MaxInt, 0, math.MinInt}}, true},
		{classes{{math.MinInt, math.MaxInt}}, classes{{math.MaxInt, 0}}, false},
		{classes{{1 << 32}}, classes{{0}}, false},
		{classes{{1<<32 + 1}}, classes{{0, 1}}, false},
	}
	for _, c := range cases {
		if got := impl.IsFiner(c.p, c.q); got != c.want {
			t.Errorf("IsFiner(%v, %v) = %v, want %v", c.p, c.q, got, c.want)
		}
	}
}

func TestIsFinerOfManyClasses(t *testing.T) {
	r := rand.New(rand.NewSource(10))
	for range 20000 {
		p, q := randomClasses(r), randomClasses(r)
		if got, want := impl.IsFiner(p, q), slowIsFiner(p, q); got != want {
			t.Fatalf("IsFiner(%v, %v) = %v, want %v", p, q, got, want)
		}
	}
	for range 3000 {
		rows := r.Intn(8)
		p, q := randomPartition(r, rows), randomPartition(r, rows)
		got := impl.IsFiner(p, q)
		if want := slowIsFiner(p, q); got != want {
			t.Fatalf("IsFiner(%v, %v) = %v, want %v", p, q, got, want)
		}
		if want := sameRows(impl.ProductOf(p, q, rows), p); got != want {
			t.Fatalf("IsFiner(%v, %v) = %v, but the product says %v", p, q, got, want)
		}
	}
}

func TestFormatPartition(t *testing.T) {
	cases := []struct {
		p    classes
		want string
	}{
		{nil, "none"},
		{classes{}, "none"},
		{classes{{0, 1}}, "0 1"},
		{classes{{0, 2}, {1, 3}}, "0 2 | 1 3"},
		{classes{{0, 10, 39}, {1, 2}, {3, 4, 5, 6}}, "0 10 39 | 1 2 | 3 4 5 6"},
		{classes{{7}}, "7"},
		{classes{{0}}, "0"},
		{classes{{7}, {8}}, "7 | 8"},
		// classes without rows
		{classes{{}}, "none"},
		{classes{nil}, "none"},
		{classes{{}, {}}, " | "},
		{classes{nil, {}, nil}, " |  | "},
		{classes{{}, {1, 2}}, " | 1 2"},
		{classes{{1, 2}, {}}, "1 2 | "},
		{classes{{1}, {}, {2}}, "1 |  | 2"},
		// any rows in any order
		{classes{{-1}}, "-1"},
		{classes{{-1, -20}, {3, 0}}, "-1 -20 | 3 0"},
		{classes{{2, 2}, {2}, {1}}, "2 2 | 2 | 1"},
		{classes{{math.MinInt, math.MaxInt}}, "-9223372036854775808 9223372036854775807"},
		{classes{{1000, 1 << 32}}, "1000 4294967296"},
	}
	for _, c := range cases {
		if got := impl.FormatPartition(c.p); got != c.want {
			t.Errorf("FormatPartition(%v) = %q, want %q", c.p, got, c.want)
		}
	}
}

// TestFormatPartitionOfManyClasses takes the format of lists of package fmt apart.
func TestFormatPartitionOfManyClasses(t *testing.T) {
	r := rand.New(rand.NewSource(11))
	for range 3000 {
		p := randomClasses(r)
		want := fmt.Sprint(p)
		want = strings.ReplaceAll(want[1:len(want)-1], "] [", " | ")
		want = strings.Trim(want, "[]")
		if want == "" {
			want = "none"
		}
		if got := impl.FormatPartition(p); got != want {
			t.Fatalf("FormatPartition(%v) = %q, want %q", p, got, want)
		}
	}
}

// TestPartitionsEveryTime makes the same calls many times, with as many classes as there may be.
func TestPartitionsEveryTime(t *testing.T) {
	table := tableOf(2)
	var pairs classes
	for row := range 40 {
		table.Rows = append(table.Rows, []int{(row * 7) % 20, null})
		if row < 20 {
			pairs = append(pairs, []int{row, row + 20})
		}
	}
	text := strings.Join(strings.Split(strings.Trim(fmt.Sprint(pairs), "[]"), "] ["), " | ")
	for range 1000 {
		for _, mode := range modes {
			if got := impl.PartitionOf(table, mode, 1); !sameRows(got, pairs) {
				t.Fatalf("PartitionOf(%v, %d, 1) = %v, want %v", table, mode, got, pairs)
			}
		}
		if got := impl.PartitionOf(table, impl.NullsApart, 3); len(got) != 0 {
			t.Fatalf("PartitionOf(%v, NullsApart, 3) = %v, want nothing", table, got)
		}
		if got := impl.ProductOf(pairs, classes{allRows(40)}, 40); !sameRows(got, pairs) {
			t.Fatalf("ProductOf(%v, all rows) = %v", pairs, got)
		}
		if !impl.IsPartition(pairs, 40) || impl.ErrorOf(pairs) != 20 || !impl.IsFiner(pairs, pairs) {
			t.Fatalf("%v are no pairs", pairs)
		}
		if impl.IsFiner(classes{{1, 2}}, append(pairs, []int{1, 2})) {
			t.Fatal("the last class that has a row counts")
		}
		if got := impl.FormatPartition(pairs); got != text {
			t.Fatalf("FormatPartition(%v) = %q, want %q", pairs, got, text)
		}
	}
}

// TestPartitionOfArgumentsStay compares tables, with their unused capacity, before and after the calls, and after their results were overwritten.
func TestPartitionOfArgumentsStay(t *testing.T) {
	for _, table := range append(agreeTables(), invalidTables...) {
		a := spareTable(table)
		before := wholeTable(a)
		for mode := -1; mode <= 2; mode++ {
			for set := -1; set <= 32; set++ {
				spoilRows(impl.PartitionOf(a, mode, set))
			}
		}
		if after := wholeTable(a); after != before {
			t.Fatalf("%s became %s", before, after)
		}
	}
}

// TestPartitionArgumentsStay does so for lists of classes.
func TestPartitionArgumentsStay(t *testing.T) {
	r := rand.New(rand.NewSource(12))
	lists := slices.Clone(notPartitions)
	for range 40 {
		lists = append(lists, randomPartition(r, 6), randomPartition(r, 6), randomClasses(r))
	}
	for _, p := range lists {
		for _, q := range lists {
			a, b := spareClasses(p), spareClasses(q)
			beforeA, beforeB := wholeClasses(a), wholeClasses(b)
			spoilRows(impl.ProductOf(a, b, 6))
			spoilRows(impl.ProductOf(a, a, 6))
			impl.IsFiner(a, b)
			impl.IsPartition(a, 6)
			impl.ErrorOf(a)
			impl.FormatPartition(a)
			if after := wholeClasses(a); after != beforeA {
				t.Fatalf("%s became %s", beforeA, after)
			}
			if after := wholeClasses(b); after != beforeB {
				t.Fatalf("%s became %s", beforeB, after)
			}
		}
	}
}

// TestPartitionResultsAreNewMemory overwrites results and looks at their other classes and at the next result.
func TestPartitionResultsAreNewMemory(t *testing.T) {
	for _, table := range agreeTables() {
		rows := len(table.Rows)
		for _, mode := range modes {
			for set := range 1 << table.Columns {
				first := impl.PartitionOf(table, mode, set)
				second := impl.PartitionOf(table, mode, set)
				product := impl.ProductOf(second, second, rows)
				checkOwnRows(t, first)
				spoilRows(first)
				checkOwnRows(t, product)
				spoilRows(product)
				want := slowPartition(table, mode, set)
				if again := impl.PartitionOf(table, mode, set); !sameRows(second, want) || !sameRows(again, want) {
					t.Fatalf("PartitionOf(%v, %d, %d) = %v and %v after a change of an earlier result", table, mode, set, second, again)
				}
				if again := impl.ProductOf(second, second, rows); !sameRows(again, want) {
					t.Fatalf("ProductOf(%v, itself, %d) = %v after a change of an earlier result", want, rows, again)
				}
			}
		}
	}
}
