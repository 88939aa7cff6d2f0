package tests

import (
	"fmt"
	"math"
	"math/rand"
	"regexp"
	"slices"
	"strings"
	"testing"

	"loop.example/g01988/impl"
)

// Promise 2, for tables: tables can be parsed from their string format; no other strings are accepted.

const null = impl.Null

// spare marks the unused capacity of slices that are given as arguments.
const spare = 77

func tableOf(columns int, rows ...[]int) impl.Table {
	return impl.Table{Columns: columns, Rows: rows}
}

// sameRows is an equality that does not rest on EqualTables.
func sameRows(a, b [][]int) bool {
	if len(a) != len(b) {
		return false
	}
	for i := range a {
		if len(a[i]) != len(b[i]) {
			return false
		}
		for k := range a[i] {
			if a[i][k] != b[i][k] {
				return false
			}
		}
	}
	return true
}

func sameTable(a, b impl.Table) bool {
	return a.Columns == b.Columns && sameRows(a.Rows, b.Rows)
}

func isZeroTable(t impl.Table) bool {
	return t.Columns == 0 && len(t.Rows) == 0
}

// repeatedRow is a table with one row so many times.
func repeatedRow(times int, row ...int) impl.Table {
	t := tableOf(len(row))
	for range times {
		t.Rows = append(t.Rows, slices.Clone(row))
	}
	return t
}

// textOfTable writes down the tables whose texts the tests use.
var textOfTable = []struct {
	table impl.Table
	text  string
}{
	{tableOf(1), "A\n"},
	{tableOf(2), "AB\n"},
	{tableOf(3), "ABC\n"},
	{tableOf(4), "ABCD\n"},
	{tableOf(5), "ABCDE\n"},
	{tableOf(1, []int{0}), "A\n0\n"},
	{tableOf(1, []int{null}), "A\nnull\n"},
	{tableOf(1, []int{impl.MaxCell}), "A\n40\n"},
	{tableOf(1, []int{9}, []int{10}, []int{39}), "A\n9\n10\n39\n"},
	{tableOf(2, []int{1, 2}, []int{1, 2}, []int{0, 2}, []int{1, 2}), "AB\n1 2\n1 2\n0 2\n1 2\n"},
	{tableOf(2, []int{null, null}, []int{null, 0}), "AB\nnull null\nnull 0\n"},
	{tableOf(3, []int{1, null, 2}, []int{0, 40, 2}, []int{0, 40, 2}), "ABC\n1 null 2\n0 40 2\n0 40 2\n"},
	{tableOf(4, []int{30, 4, null, 12}), "ABCD\n30 4 null 12\n"},
	{tableOf(5, []int{5, 4, 3, 2, 1}, []int{null, 40, 0, null, 20}), "ABCDE\n5 4 3 2 1\nnull 40 0 null 20\n"},
	{repeatedRow(impl.MaxRows, 7), "A\n" + strings.Repeat("7\n", 40)},
	{repeatedRow(impl.MaxRows, 1, 2, null, 4, 40), "ABCDE\n" + strings.Repeat("1 2 null 4 40\n", 40)},
}

// invalidTables are tables with one thing wrong.
var invalidTables = []impl.Table{
	{},
	tableOf(0, []int{}),
	tableOf(-1),
	tableOf(-1, []int{0}),
	tableOf(math.MinInt),
	tableOf(6),
	tableOf(6, []int{0, 0, 0, 0, 0, 0}),
	tableOf(7, []int{0}),
	tableOf(64),
	tableOf(math.MaxInt),
	repeatedRow(impl.MaxRows+1, 0),
	repeatedRow(impl.MaxRows+1, 0, 1, 2, 3, 4),
	repeatedRow(1000, 0),
	tableOf(1, nil),
	tableOf(1, []int{}),
	tableOf(1, []int{0, 0}),
	tableOf(2, []int{0}),
	tableOf(2, []int{0, 0, 0}),
	tableOf(2, []int{0, 0}, nil),
	tableOf(2, []int{0, 0}, []int{1}),
	tableOf(2, []int{0, 0}, []int{1, 1, 1}, []int{0, 0}),
	tableOf(5, []int{0, 0, 0, 0}),
	tableOf(5, []int{0, 0, 0, 0, 0, 0}),
	tableOf(1, []int{impl.MaxCell + 1}),
	tableOf(1, []int{impl.Null - 1}),
	tableOf(1, []int{math.MinInt}),
	tableOf(1, []int{math.MaxInt}),
	tableOf(3, []int{0, 41, 0}),
	tableOf(3, []int{0, 0, -2}),
	tableOf(3, []int{-2, 0, 0}),
	tableOf(2, []int{0, 0}, []int{0, 0}, []int{0, 41}),
	tableOf(2, []int{0, 1 << 32}),
	tableOf(2, []int{0, 1<<32 - 1}),
}

// spareTable is a copy of a table with marked unused capacity everywhere.
func spareTable(t impl.Table) impl.Table {
	rows := make([][]int, 0, len(t.Rows)+3)
	for _, row := range t.Rows {
		rows = append(rows, spareRow(row))
	}
	for len(rows) < cap(rows) {
		rows = append(rows, spareRow([]int{spare}))
	}
	return impl.Table{Columns: t.Columns, Rows: rows[:len(t.Rows)]}
}

func spareRow(row []int) []int {
	wide := make([]int, 0, len(row)+3)
	wide = append(wide, row...)
	for len(wide) < cap(wide) {
		wide = append(wide, spare)
	}
	return wide[:len(row)]
}

// wholeTable writes a table down together with its unused capacity.
func wholeTable(t impl.Table) string {
	var out strings.Builder
	fmt.Fprint(&out, t.Columns, len(t.Rows))
	for _, row := range t.Rows[:cap(t.Rows)] {
		fmt.Fprint(&out, ";", len(row), row[:cap(row)])
	}
	return out.String()
}

// spoilRows overwrites everything that a list of rows gives access to.
func spoilRows(rows [][]int) {
	rows = rows[:cap(rows)]
	for i, row := range rows {
		spoilRow(row)
		rows[i] = []int{-99}
	}
}

func spoilRow(row []int) {
	row = row[:cap(row)]
	for i := range row {
		row[i] = -99
	}
}

// randomTable is a valid table of few different values, so that rows occur several times.
func randomTable(r *rand.Rand) impl.Table {
	t := tableOf(1 + r.Intn(5))
	values := []int{null, 0, 1, 2, 10, 40}[:2+r.Intn(5)]
	for range r.Intn(impl.MaxRows + 1) {
		row := make([]int, t.Columns)
		for i := range row {
			row[i] = values[r.Intn(len(values))]
		}
		t.Rows = append(t.Rows, row)
	}
	return t
}

func TestTableConstants(t *testing.T) {
	if impl.MaxRows != 40 || impl.MaxCell != 40 || impl.Null != -1 {
		t.Error(impl.MaxRows, impl.MaxCell, impl.Null)
	}
}

func TestIsTable(t *testing.T) {
	for _, c := range textOfTable {
		if !impl.IsTable(c.table) {
			t.Errorf("IsTable(%v) = false", c.table)
		}
	}
	if !impl.IsTable(impl.Table{Columns: 2, Rows: [][]int{}}) {
		t.Error("an empty list of rows is not accepted")
	}
	for _, bad := range invalidTables {
		if impl.IsTable(bad) {
			t.Errorf("IsTable(%v) = true", bad)
		}
	}
}

func TestIsTableColumnCounts(t *testing.T) {
	for columns := -3; columns <= 9; columns++ {
		row := make([]int, max(columns, 0))
		want := columns >= 1 && columns <= 5
		for rows := 0; rows <= 2; rows++ {
			table := tableOf(columns)
			for range rows {
				table.Rows = append(table.Rows, row)
			}
			if got := impl.IsTable(table); got != want {
				t.Errorf("IsTable with %d columns and %d rows = %v", columns, rows, got)
			}
		}
	}
}

func TestIsTableRowCounts(t *testing.T) {
	for columns := 1; columns <= 5; columns++ {
		for rows := 0; rows <= 90; rows++ {
			table := repeatedRow(rows, make([]int, columns)...)
			if got := impl.IsTable(table); got != (rows <= 40) {
				t.Errorf("IsTable with %d columns and %d rows = %v", columns, rows, got)
			}
		}
	}
}

// TestIsTableCells tries each value and each length of a row in each place.
func TestIsTableCells(t *testing.T) {
	for columns := 1; columns <= 5; columns++ {
		for at := 0; at < 3; at++ {
			table := repeatedRow(3, make([]int, columns)...)
			for place := range columns {
				for value := -45; value <= 90; value++ {
					table.Rows[at][place] = value
					if got := impl.IsTable(table); got != (value >= -1 && value <= 40) {
						t.Fatalf("IsTable(%v) = %v", table, got)
					}
				}
				table.Rows[at][place] = 0
			}
			for length := 0; length <= 8; length++ {
				table.Rows[at] = make([]int, length)
				if got := impl.IsTable(table); got != (length == columns) {
					t.Fatalf("IsTable(%v) = %v", table, got)
				}
			}
		}
	}
}

func TestColumnOf(t *testing.T) {
	table := tableOf(3, []int{1, null, 2}, []int{0, 40, 2}, []int{5, null, 3}, []int{0, 40, 2})
	want := [][]int{{1, 0, 5, 0}, {null, 40, null, 40}, {2, 2, 3, 2}}
	for column, values := range want {
		if got := impl.ColumnOf(table, column); !slices.Equal(got, values) {
			t.Errorf("ColumnOf(%v, %d) = %v, want %v", table, column, got, values)
		}
	}
	for _, c := range textOfTable {
		for column := range c.table.Columns {
			got := impl.ColumnOf(c.table, column)
			if len(got) != len(c.table.Rows) {
				t.Fatalf("ColumnOf(%v, %d) = %v", c.table, column, got)
			}
			for i, row := range c.table.Rows {
				if got[i] != row[column] {
					t.Errorf("ColumnOf(%v, %d)[%d] = %d, want %d", c.table, column, i, got[i], row[column])
				}
			}
		}
	}
}

func TestColumnOfInvalid(t *testing.T) {
	for _, c := range textOfTable {
		columns := c.table.Columns
		for _, column := range []int{math.MinInt, -2, -1, columns, columns + 1, 5, 6, 64, math.MaxInt} {
			if got := impl.ColumnOf(c.table, column); len(got) != 0 {
				t.Errorf("ColumnOf(%v, %d) = %v, want nothing", c.table, column, got)
			}
		}
	}
	for _, bad := range invalidTables {
		for column := -1; column <= 7; column++ {
			if got := impl.ColumnOf(bad, column); len(got) != 0 {
				t.Errorf("ColumnOf(%v, %d) = %v, want nothing", bad, column, got)
			}
		}
	}
}

func TestProjectTable(t *testing.T) {
	table := tableOf(3,
		[]int{10, null, 2}, []int{9, 40, 2}, []int{9, 40, 2}, []int{null, 0, 40},
		[]int{10, null, 1}, []int{9, null, 2}, []int{10, null, 2}, []int{null, 1, 40},
	)
	cases := []struct {
		set  int
		want impl.Table
	}{
		{1, tableOf(1, []int{null}, []int{9}, []int{10})},
		{2, tableOf(1, []int{null}, []int{0}, []int{1}, []int{40})},
		{3, tableOf(2, []int{null, 0}, []int{null, 1}, []int{9, null}, []int{9, 40}, []int{10, null})},
		{4, tableOf(1, []int{1}, []int{2}, []int{40})},
		{5, tableOf(2, []int{null, 40}, []int{9, 2}, []int{10, 1}, []int{10, 2})},
		{6, tableOf(2, []int{null, 1}, []int{null, 2}, []int{0, 40}, []int{1, 40}, []int{40, 2})},
		{7, tableOf(3, []int{null, 0, 40}, []int{null, 1, 40}, []int{9, null, 2}, []int{9, 40, 2}, []int{10, null, 1}, []int{10, null, 2})},
	}
	for _, c := range cases {
		if got := impl.ProjectTable(table, c.set); !sameTable(got, c.want) {
			t.Errorf("ProjectTable(%v, %d) = %v, want %v", table, c.set, got, c.want)
		}
	}
}

func TestProjectTableWithoutRows(t *testing.T) {
	for columns := 1; columns <= 5; columns++ {
		for set := 1; set < 1<<columns; set++ {
			want := tableOf(impl.CountMembers(set))
			if got := impl.ProjectTable(tableOf(columns), set); !sameTable(got, want) {
				t.Errorf("ProjectTable of %d columns without rows, %d: %v, want %v", columns, set, got, want)
			}
		}
	}
}

// slowProjection inserts each row at its place among those that were kept.
func slowProjection(t impl.Table, set int) impl.Table {
	p := tableOf(0)
	for column := range 5 {
		p.Columns += set >> column & 1
	}
	for _, row := range t.Rows {
		var part []int
		for column, value := range row {
			if set>>column&1 == 1 {
				part = append(part, value)
			}
		}
		at := 0
		for at < len(p.Rows) && slices.Compare(p.Rows[at], part) < 0 {
			at++
		}
		if at == len(p.Rows) || !slices.Equal(p.Rows[at], part) {
			p.Rows = slices.Insert(p.Rows, at, part)
		}
	}
	return p
}

func TestProjectTableOfManyTables(t *testing.T) {
	r := rand.New(rand.NewSource(3))
	for range 500 {
		table := randomTable(r)
		for set := 1; set < 1<<table.Columns; set++ {
			got, want := impl.ProjectTable(table, set), slowProjection(table, set)
			if !sameTable(got, want) {
				t.Fatalf("ProjectTable(%v, %d) = %v, want %v", table, set, got, want)
			}
		}
	}
}

func TestProjectTableInvalid(t *testing.T) {
	for _, c := range textOfTable {
		all := 1<<c.table.Columns - 1
		for _, set := range []int{0, all + 1, 1<<c.table.Columns | 1, -1, -1 - all, math.MinInt, math.MinInt + 1, 32, 63, 1 << 62, math.MaxInt} {
			if got := impl.ProjectTable(c.table, set); !isZeroTable(got) {
				t.Errorf("ProjectTable(%v, %d) = %v, want the zero value", c.table, set, got)
			}
		}
	}
	for _, bad := range invalidTables {
		for set := -1; set <= 128; set++ {
			if got := impl.ProjectTable(bad, set); !isZeroTable(got) {
				t.Errorf("ProjectTable(%v, %d) = %v, want the zero value", bad, set, got)
			}
		}
	}
}

func TestTablesInverse(t *testing.T) {
	for _, c := range textOfTable {
		if got := impl.FormatTable(c.table); got != c.text {
			t.Errorf("FormatTable(%v) = %q, want %q", c.table, got, c.text)
		}
		if got, ok := impl.ParseTable(c.text); !ok || !sameTable(got, c.table) {
			t.Errorf("ParseTable(%q) = %v, %v, want %v", c.text, got, ok, c.table)
		}
	}
}

// TestTablesInverseCells reads and writes each value in each place of a row.
func TestTablesInverseCells(t *testing.T) {
	words := []string{"null"}
	for value := 0; value <= 40; value++ {
		words = append(words, fmt.Sprint(value))
	}
	for columns := 1; columns <= 5; columns++ {
		for place := range columns {
			for i, word := range words {
				row, line := make([]int, columns), strings.Split(strings.Repeat("0", columns), "")
				row[place], line[place] = i-1, word
				table := tableOf(columns, row)
				text := "ABCDE"[:columns] + "\n" + strings.Join(line, " ") + "\n"
				if got := impl.FormatTable(table); got != text {
					t.Fatalf("FormatTable(%v) = %q, want %q", table, got, text)
				}
				if got, ok := impl.ParseTable(text); !ok || !sameTable(got, table) {
					t.Fatalf("ParseTable(%q) = %v, %v, want %v", text, got, ok, table)
				}
			}
		}
	}
}

func TestTablesInverseOfManyTables(t *testing.T) {
	r := rand.New(rand.NewSource(4))
	for range 2000 {
		table := randomTable(r)
		s := impl.FormatTable(table)
		if got, ok := impl.ParseTable(s); !ok || !sameTable(got, table) {
			t.Fatalf("ParseTable(%q) = %v, %v, want %v", s, got, ok, table)
		}
	}
}

func TestFormatTableInvalid(t *testing.T) {
	for _, bad := range invalidTables {
		if got := impl.FormatTable(bad); got != "" {
			t.Errorf("FormatTable(%v) = %q, want nothing", bad, got)
		}
	}
}

// tableText is the format of chapter 3 as an expression, but for the number of rows.
var tableText = regexp.MustCompile(strings.NewReplacer("c", `(null|\d|[123]\d|40)`).Replace(
	`^(A\n(c\n)*|AB\n(c c\n)*|ABC\n(c c c\n)*|ABCD\n(c c c c\n)*|ABCDE\n(c c c c c\n)*)\z`))

// checkParseTable compares what ParseTable accepts with the expression, and what it reads with what FormatTable writes.
func checkParseTable(t *testing.T, s string) {
	t.Helper()
	want := tableText.MatchString(s) && strings.Count(s, "\n") <= 41
	got, ok := impl.ParseTable(s)
	if ok != want {
		t.Fatalf("ParseTable(%q) = %v, %v, want %v", s, got, ok, want)
	}
	if !ok && !isZeroTable(got) {
		t.Fatalf("ParseTable(%q) = %v together with false", s, got)
	}
	if ok && (!impl.IsTable(got) || impl.FormatTable(got) != s) {
		t.Fatalf("ParseTable(%q) = %v, which is written as %q", s, got, impl.FormatTable(got))
	}
}

func TestParseTableRejects(t *testing.T) {
	rejected := []string{
		"", "\n", "\n\n", " \n", "0\n", "null\n", "none\n", "none\n\n", "none\n0\n",
		// no letters of all columns in order
		"B\n", "B\n0\n", "AC\n", "AC\n0 0\n", "BA\n", "BA\n1 2\n", "ABD\n", "ACB\n", "BCDE\n", "AA\n", "ABB\n", "EDCBA\n",
		"a\n", "ab\n", "F\n", "ABCDEF\n", "ABCDEF\n0 0 0 0 0 0\n", "A B\n", "A B\n0 0\n", " A\n", "A \n", "A\r\n", "\nA\n", "A\x00\n", "\uff21\n", "A,B\n",
		// a line without its newline
		"A", "ABCDE", "A\n0", "A\nnull", "AB\n1 2", "AB\n1 2\n1 2", "A\n0\n0", "A0", "A0\n", "A 0\n",
		// too few or too many values
		"AB\n1\n", "AB\n1 2 3\n", "A\n1 2\n", "AB\n1 2\n1\n", "AB\n1 2\n1 2 3\n", "AB\n12\n", "ABCDE\n1 2 3 4\n", "ABCDE\n1 2 3 4 5 6\n",
		// other words
		"A\n00\n", "A\n01\n", "A\n09\n", "A\n040\n", "AB\n01 2\n", "AB\n1 02\n",
		"A\n-1\n", "A\n-0\n", "A\n+0\n", "A\n+1\n", "A\n-2\n", "A\n-\n", "AB\n1 -1\n", "AB\n-1 1\n",
		"A\n41\n", "A\n49\n", "A\n50\n", "A\n99\n", "A\n100\n", "A\n400\n", "A\n999999999\n", "A\n1000000000\n", "AB\n0 41\n",
		"A\n4294967296\n", "A\n4294967297\n", "A\n18446744073709551616\n", "A\n18446744073709551615\n", "A\n9223372036854775808\n",
		"A\nNull\n", "A\nNULL\n", "A\nnul\n", "A\nnulll\n", "A\nnone\n", "A\nnull0\n", "A\n0null\n", "AB\nnullnull\n", "AB\nnull\n", "A\nA\n", "A\nx\n",
		"A\n0x1\n", "A\n1.0\n", "A\n1e1\n", "A\n1_0\n", "A\n\u0661\n", "A\n\uff11\n", "A\n\xff\n", "A\n0\x00\n",
		// spaces and empty lines
		"AB\n1  2\n", "AB\n 1 2\n", "AB\n1 2 \n", "AB\n1 2\n 1 2\n", "AB\n1\t2\n", "AB\n1,2\n", "AB\n1\n2\n", "A\n \n", "A\n 0\n", "A\n0 \n", "A\n0\r\n", "A\n0\t\n", "AB\n \n", "AB\n1 \n", "AB\n 1\n", "ABC\n1  2\n", "ABC\n1 2 \n",
		"A\n\n", "A\n\n0\n", "A\n0\n\n", "A\n0\n\n0\n", "AB\n1 2\n\n", "A\n0\n ", "A\n0\n0\n\n", "A\n0\nA\n", "A\n0\nA\n0\n",
		// too many rows
		"A\n" + strings.Repeat("0\n", 41), "A\n" + strings.Repeat("0\n", 42), "A\n" + strings.Repeat("0\n", 40) + "0", "A\n" + strings.Repeat("0\n", 40) + "\n", "A\n" + strings.Repeat("0\n", 5000),
		"ABCDE\n" + strings.Repeat("0 1 2 3 4\n", 41), "A\n" + strings.Repeat("\n", 40), "A\n" + strings.Repeat("\n", 41),
		// long lines
		"A\n" + strings.Repeat("0", 100000) + "\n", "A\n" + strings.Repeat("0 ", 100000) + "\n", strings.Repeat("A", 100000) + "\n", strings.Repeat("ABCDE\n", 1000),
	}
	for _, s := range rejected {
		if got, ok := impl.ParseTable(s); ok || !isZeroTable(got) {
			t.Errorf("ParseTable(%q) = %v, %v, want the zero value and false", s, got, ok)
		}
		checkParseTable(t, s)
	}
}

// TestParseTableRowCounts has the limit between the rows.
func TestParseTableRowCounts(t *testing.T) {
	lines := []string{"0\n", "0 1\n", "0 1 2\n", "0 1 null 3\n", "0 1 2 3 40\n"}
	for i, line := range lines {
		for rows := 0; rows <= 85; rows++ {
			s := "ABCDE"[:i+1] + "\n" + strings.Repeat(line, rows)
			if got, ok := impl.ParseTable(s); ok != (rows <= 40) || ok && len(got.Rows) != rows {
				t.Fatalf("ParseTable of %d rows like %q = %v, %v", rows, line, got, ok)
			}
			checkParseTable(t, s)
		}
	}
}

// TestParseTableAll tries all strings of few pieces of the format.
func TestParseTableAll(t *testing.T) {
	pieces := []string{"A", "B", "\n", " ", "0", "4", "1", "null", "-"}
	strs := []string{""}
	for depth := 0; depth < 6; depth++ {
		var longer []string
		for _, s := range strs {
			checkParseTable(t, s)
			for _, p := range pieces {
				longer = append(longer, s+p)
			}
		}
		strs = longer
	}
	for _, s := range strs {
		checkParseTable(t, s)
		checkParseTable(t, "A\n"+s)
		checkParseTable(t, "AB\n"+s+"\n")
	}
}

// TestParseTableEdits changes each byte of texts of tables in all ways, leaves it out and puts another one before it.
func TestParseTableEdits(t *testing.T) {
	texts := []string{"A\n", "ABCDE\n", "A\n0\n", "A\nnull\n40\n", "AB\n1 null\n10 4\n", "ABC\n1 null 2\n0 40 2\n"}
	for _, s := range texts {
		for at := 0; at <= len(s); at++ {
			for b := 0; b < 256; b++ {
				letter := string([]byte{byte(b)})
				checkParseTable(t, s[:at]+letter+s[at:])
				if at < len(s) {
					checkParseTable(t, s[:at]+letter+s[at+1:])
				}
			}
			checkParseTable(t, s[:at])
			checkParseTable(t, s[at:])
			if at < len(s) {
				checkParseTable(t, s[:at]+s[at+1:])
			}
		}
	}
}

func TestEqualTables(t *testing.T) {
	all := slices.Clone(invalidTables)
	for _, c := range textOfTable {
		all = append(all, c.table)
	}
	for _, a := range all {
		for _, b := range all {
			if got, want := impl.EqualTables(a, b), sameTable(a, b); got != want {
				t.Errorf("EqualTables(%v, %v) = %v, want %v", a, b, got, want)
			}
		}
		if !impl.EqualTables(a, spareTable(a)) {
			t.Errorf("%v is not equal to a copy of it", a)
		}
	}
}

func TestEqualTablesDifferences(t *testing.T) {
	cases := []struct {
		a, b impl.Table
		want bool
	}{
		{tableOf(2, []int{1, 2}), tableOf(2, []int{1, 2}), true},
		{tableOf(2, []int{1, 2}), tableOf(3, []int{1, 2}), false},
		{tableOf(2), tableOf(3), false},
		{tableOf(-5), tableOf(-5), true},
		{tableOf(-5), tableOf(5), false},
		{tableOf(math.MaxInt), tableOf(math.MaxInt), true},
		{tableOf(math.MaxInt), tableOf(math.MinInt), false},
		{tableOf(2, []int{1, 2}), tableOf(2, []int{1, 3}), false},
		{tableOf(2, []int{1, 2}), tableOf(2, []int{2, 1}), false},
		{tableOf(2, []int{1, 2}, []int{3, 4}), tableOf(2, []int{3, 4}, []int{1, 2}), false},
		{tableOf(2, []int{1, 2}, []int{1, 2}), tableOf(2, []int{1, 2}), false},
		{tableOf(2, []int{1, 2}), tableOf(2, []int{1, 2}, []int{1, 2}), false},
		{tableOf(2, []int{1, 2}), tableOf(2), false},
		{tableOf(2, []int{1, 2}), tableOf(2, []int{1}), false},
		{tableOf(2, []int{1}), tableOf(2, []int{1, 2}), false},
		{tableOf(2, []int{1, 2}), tableOf(2, []int{1, 2, 3}), false},
		{tableOf(2, []int{1, 2}), tableOf(2, []int{1}, []int{2}), false},
		{tableOf(2, []int{1, 2}, nil), tableOf(2, []int{1, 2}), false},
		{tableOf(2, []int{1, 2}, nil), tableOf(2, []int{1, 2}, []int{}), true},
		{tableOf(1, nil, []int{1}), tableOf(1, []int{1}, nil), false},
		{tableOf(1, []int{1000}), tableOf(1, []int{1000}), true},
		{tableOf(1, []int{-7}), tableOf(1, []int{-8}), false},
		{tableOf(1, []int{null}), tableOf(1, []int{0}), false},
		{tableOf(1, []int{null}), tableOf(1, []int{null}), true},
		{impl.Table{}, impl.Table{Rows: [][]int{}}, true},
		{impl.Table{}, tableOf(1), false},
		{repeatedRow(50, 1), repeatedRow(50, 1), true},
		{repeatedRow(50, 1), repeatedRow(51, 1), false},
	}
	for _, c := range cases {
		if got := impl.EqualTables(c.a, c.b); got != c.want {
			t.Errorf("EqualTables(%v, %v) = %v, want %v", c.a, c.b, got, c.want)
		}
		if got := impl.EqualTables(c.b, c.a); got != c.want {
			t.Errorf("EqualTables(%v, %v) = %v, want %v", c.b, c.a, got, c.want)
		}
	}
}

// TestTableArgumentsStay compares arguments, with their unused capacity, before and after the calls, and after their results were overwritten.
func TestTableArgumentsStay(t *testing.T) {
	all := slices.Clone(invalidTables)
	for _, c := range textOfTable {
		all = append(all, c.table)
	}
	r := rand.New(rand.NewSource(5))
	for range 100 {
		all = append(all, randomTable(r))
	}
	for _, table := range all {
		a, b := spareTable(table), spareTable(table)
		before := wholeTable(a)
		impl.IsTable(a)
		impl.FormatTable(a)
		impl.EqualTables(a, b)
		for column := -1; column <= 5; column++ {
			spoilRow(impl.ColumnOf(a, column))
		}
		for set := -1; set <= 32; set++ {
			spoilRows(impl.ProjectTable(a, set).Rows)
		}
		if after := wholeTable(a); after != before {
			t.Fatalf("%s became %s", before, after)
		}
		if after := wholeTable(b); after != before {
			t.Fatalf("%s became %s", before, after)
		}
	}
}

// checkOwnRows overwrites each row of a result, with its unused capacity, and looks at the other ones.
func checkOwnRows(t *testing.T, rows [][]int) {
	t.Helper()
	for i := range rows {
		want := make([][]int, len(rows))
		for k, row := range rows {
			want[k] = slices.Clone(row)
		}
		spoilRow(rows[i])
		want[i] = slices.Clone(rows[i])
		if !sameRows(rows, want) {
			t.Fatalf("a change of row %d makes %v of %v", i, rows, want)
		}
	}
}

func TestTableResultsAreNewMemory(t *testing.T) {
	for _, c := range textOfTable {
		read, _ := impl.ParseTable(c.text)
		checkOwnRows(t, read.Rows)
		spoilRows(read.Rows)
		if again, ok := impl.ParseTable(c.text); !ok || !sameTable(again, c.table) {
			t.Errorf("ParseTable(%q) = %v after a change of an earlier result", c.text, again)
		}
		for set := 1; set < 1<<c.table.Columns; set++ {
			part := impl.ProjectTable(c.table, set)
			checkOwnRows(t, part.Rows)
			spoilRows(part.Rows)
			if again := impl.ProjectTable(c.table, set); !sameTable(again, slowProjection(c.table, set)) {
				t.Errorf("ProjectTable(%v, %d) = %v after a change of an earlier result", c.table, set, again)
			}
		}
		for column := range c.table.Columns {
			values := impl.ColumnOf(c.table, column)
			want := slices.Clone(values)
			spoilRow(values)
			if again := impl.ColumnOf(c.table, column); !slices.Equal(again, want) {
				t.Errorf("ColumnOf(%v, %d) = %v after a change of an earlier result", c.table, column, again)
			}
		}
	}
}
