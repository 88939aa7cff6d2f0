package tests

import (
	"math"
	"math/bits"
	"slices"
	"strings"
	"testing"

	"loop.example/g01988/impl"
)

// Promise 2, for sets of columns: sets can be parsed from their string format; no other strings are accepted.

// invalidSets are numbers that are no set of the first five columns.
var invalidSets = []int{
	math.MinInt, math.MinInt + 1, math.MinInt + 31, -64, -33, -32, -31, -2, -1,
	32, 33, 36, 63, 64, 1 << 31, 1 << 32, 1<<32 + 1, 1 << 62, math.MaxInt - 31, math.MaxInt,
}

var badColumnCounts = []int{math.MinInt, -64, -2, -1, 6, 7, 31, 63, 64, 65, math.MaxInt}

// textOfSet writes down the format of chapter 2 for each of the 32 sets.
var textOfSet = [32]string{
	"none", "A", "B", "AB", "C", "AC", "BC", "ABC",
	"D", "AD", "BD", "ABD", "CD", "ACD", "BCD", "ABCD",
	"E", "AE", "BE", "ABE", "CE", "ACE", "BCE", "ABCE",
	"DE", "ADE", "BDE", "ABDE", "CDE", "ACDE", "BCDE", "ABCDE",
}

func TestMaxColumns(t *testing.T) {
	if impl.MaxColumns != 5 {
		t.Errorf("MaxColumns = %d, want 5", impl.MaxColumns)
	}
}

func TestIsAttributes(t *testing.T) {
	greatest := []int{0, 1, 3, 7, 15, 31}
	for n, most := range greatest {
		for x := -40; x <= 70; x++ {
			want := x >= 0 && x <= most
			if got := impl.IsAttributes(n, x); got != want {
				t.Errorf("IsAttributes(%d, %d) = %v, want %v", n, x, got, want)
			}
		}
		for _, x := range invalidSets {
			if impl.IsAttributes(n, x) {
				t.Errorf("IsAttributes(%d, %d) = true", n, x)
			}
		}
	}
}

func TestIsAttributesColumnCounts(t *testing.T) {
	for _, n := range badColumnCounts {
		for x := -1; x <= 32; x++ {
			if impl.IsAttributes(n, x) {
				t.Errorf("IsAttributes(%d, %d) = true", n, x)
			}
		}
		for _, x := range invalidSets {
			if impl.IsAttributes(n, x) {
				t.Errorf("IsAttributes(%d, %d) = true", n, x)
			}
		}
	}
}

func TestMembers(t *testing.T) {
	cases := []struct {
		x    int
		want []int
	}{
		{0, nil},
		{1, []int{0}},
		{5, []int{0, 2}},
		{16, []int{4}},
		{22, []int{1, 2, 4}},
		{30, []int{1, 2, 3, 4}},
		{31, []int{0, 1, 2, 3, 4}},
	}
	for _, c := range cases {
		if got := impl.Members(c.x); !slices.Equal(got, c.want) {
			t.Errorf("Members(%d) = %v, want %v", c.x, got, c.want)
		}
		if got := impl.CountMembers(c.x); got != len(c.want) {
			t.Errorf("CountMembers(%d) = %d, want %d", c.x, got, len(c.want))
		}
	}
}

// TestMembersOfEverySet adds the members up again.
func TestMembersOfEverySet(t *testing.T) {
	for x := 0; x < 32; x++ {
		columns := impl.Members(x)
		sum := 0
		for i, column := range columns {
			if column < 0 || column > 4 || i > 0 && column <= columns[i-1] {
				t.Fatalf("Members(%d) = %v", x, columns)
			}
			sum += 1 << column
		}
		if sum != x {
			t.Errorf("Members(%d) = %v", x, columns)
		}
		if got := impl.CountMembers(x); got != bits.OnesCount(uint(x)) {
			t.Errorf("CountMembers(%d) = %d", x, got)
		}
	}
}

func TestMembersOfInvalidSets(t *testing.T) {
	for _, x := range invalidSets {
		if got := impl.Members(x); len(got) != 0 {
			t.Errorf("Members(%d) = %v, want nothing", x, got)
		}
		if got := impl.CountMembers(x); got != 0 {
			t.Errorf("CountMembers(%d) = %d, want 0", x, got)
		}
	}
}

// TestMembersIsNewMemory changes one result and looks at the next one.
func TestMembersIsNewMemory(t *testing.T) {
	first := impl.Members(31)
	for i := range first {
		first[i] = 9
	}
	if got := impl.Members(31); !slices.Equal(got, []int{0, 1, 2, 3, 4}) {
		t.Errorf("Members(31) = %v after a change of an earlier result", got)
	}
}

func TestIsPart(t *testing.T) {
	cases := []struct {
		x, y int
		want bool
	}{
		{5, 7, true},
		{5, 6, false},
		{7, 5, false},
		{5, 5, true},
		{0, 0, true},
		{0, 31, true},
		{31, 31, true},
		{31, 0, false},
		{31, 30, false},
		{16, 15, false},
		{1, 2, false},
	}
	for _, c := range cases {
		if got := impl.IsPart(c.x, c.y); got != c.want {
			t.Errorf("IsPart(%d, %d) = %v, want %v", c.x, c.y, got, c.want)
		}
	}
}

// TestIsPartOfEverySet looks for each letter of one set in the other one.
func TestIsPartOfEverySet(t *testing.T) {
	for x := 0; x < 32; x++ {
		for y := 0; y < 32; y++ {
			want := true
			for _, letter := range "ABCDE" {
				inX := strings.ContainsRune(textOfSet[x], letter)
				want = want && (!inX || strings.ContainsRune(textOfSet[y], letter))
			}
			if got := impl.IsPart(x, y); got != want {
				t.Errorf("IsPart(%d, %d) = %v, want %v", x, y, got, want)
			}
		}
	}
}

func TestIsPartOfInvalidSets(t *testing.T) {
	for _, bad := range invalidSets {
		for x := 0; x < 32; x++ {
			if impl.IsPart(x, bad) {
				t.Errorf("IsPart(%d, %d) = true", x, bad)
			}
			if impl.IsPart(bad, x) {
				t.Errorf("IsPart(%d, %d) = true", bad, x)
			}
		}
		for _, other := range invalidSets {
			if impl.IsPart(bad, other) {
				t.Errorf("IsPart(%d, %d) = true", bad, other)
			}
		}
	}
}

func TestPartsBySize(t *testing.T) {
	want := [][]int{
		{0},
		{0, 1},
		{0, 1, 2, 3},
		{0, 1, 2, 4, 3, 5, 6, 7},
		{0, 1, 2, 4, 8, 3, 5, 6, 9, 10, 12, 7, 11, 13, 14, 15},
		{
			0, 1, 2, 4, 8, 16, 3, 5, 6, 9, 10, 12, 17, 18, 20, 24,
			7, 11, 13, 14, 19, 21, 22, 25, 26, 28, 15, 23, 27, 29, 30, 31,
		},
	}
	for n, list := range want {
		got := impl.PartsBySize(n)
		if !slices.Equal(got, list) {
			t.Errorf("PartsBySize(%d) = %v, want %v", n, got, list)
		}
		for i := range got {
			got[i] = -1
		}
		if again := impl.PartsBySize(n); !slices.Equal(again, list) {
			t.Errorf("PartsBySize(%d) = %v after a change of an earlier result", n, again)
		}
	}
}

func TestPartsBySizeColumnCounts(t *testing.T) {
	for _, n := range badColumnCounts {
		if got := impl.PartsBySize(n); len(got) != 0 {
			t.Errorf("PartsBySize(%d) = %v, want nothing", n, got)
		}
	}
}

func TestAttributesInverse(t *testing.T) {
	for x, s := range textOfSet {
		if got := impl.FormatAttributes(x); got != s {
			t.Errorf("FormatAttributes(%d) = %q, want %q", x, got, s)
		}
		if got, ok := impl.ParseAttributes(s); got != x || !ok {
			t.Errorf("ParseAttributes(%q) = %d, %v, want %d", s, got, ok, x)
		}
	}
}

func TestFormatAttributesInvalid(t *testing.T) {
	for _, x := range invalidSets {
		if got := impl.FormatAttributes(x); got != "" {
			t.Errorf("FormatAttributes(%d) = %q, want nothing", x, got)
		}
	}
}

func TestParseAttributesRejects(t *testing.T) {
	rejected := []string{
		"",
		// out of order or twice
		"BA", "CAB", "EDCBA", "ABDC", "EA", "AA", "ABB", "AAB", "EE", "ABCDEE", "ABCDEA", "AABCDE",
		// lower case or no column
		"a", "e", "aB", "Ab", "abcde", "F", "AF", "ABCDEF", "@", "@A", "G", "Z", "[", "`", "0", "5", "A1",
		// the word none with anything beside it
		"none ", " none", "none\n", "nonenone", "noneA", "Anone", "none A", "none,", "none\x00",
		"non", "one", "n", "None", "NONE", "no ne", "nothing", "null",
		// blanks and separators
		" ", "\n", "\t", "\x00", " A", "A ", "A B", "A\n", "\tA", "A,B", "A-C", "{A}", "A\x00",
		// other bytes and runes
		"\xff", "A\xff", "\xc1", "\x81", "\u0391", "\uff21", "\u00c1", "A\u0301", "\ufffd", "\u0141", "\U00010041",
		strings.Repeat("A", 1000), strings.Repeat("ABCDE", 200), strings.Repeat("none", 100),
	}
	for _, s := range rejected {
		if x, ok := impl.ParseAttributes(s); x != 0 || ok {
			t.Errorf("ParseAttributes(%q) = %d, %v, want 0, false", s, x, ok)
		}
	}
}

// TestParseAttributesAll tries all strings of at most six bytes from an alphabet of the letters and others.
func TestParseAttributesAll(t *testing.T) {
	numbers := map[string]int{}
	for x, s := range textOfSet {
		numbers[s] = x
	}
	accepted := 0
	strs := []string{""}
	for from := 0; from < len(strs); from++ {
		s := strs[from]
		want, ok := numbers[s]
		if x, read := impl.ParseAttributes(s); x != want || read != ok {
			t.Fatalf("ParseAttributes(%q) = %d, %v, want %d, %v", s, x, read, want, ok)
		}
		if ok {
			accepted++
		}
		if len(s) == 6 {
			continue
		}
		for _, b := range "ABCDEFa " {
			strs = append(strs, s+string(b))
		}
	}
	if accepted != 31 {
		t.Errorf("%d strings of letters are sets, want 31", accepted)
	}
}

// TestParseAttributesBytes tries all strings of at most two bytes, and the word none with each byte in each place.
func TestParseAttributesBytes(t *testing.T) {
	numbers := map[string]int{}
	for x, s := range textOfSet {
		numbers[s] = x
	}
	check := func(s string) {
		want, ok := numbers[s]
		if x, read := impl.ParseAttributes(s); x != want || read != ok {
			t.Fatalf("ParseAttributes(%q) = %d, %v, want %d, %v", s, x, read, want, ok)
		}
	}
	for b := 0; b < 256; b++ {
		letter := string([]byte{byte(b)})
		check(letter)
		for c := 0; c < 256; c++ {
			check(letter + string([]byte{byte(c)}))
		}
		for at := 0; at <= 4; at++ {
			check("none"[:at] + letter + "none"[at:])
			if at < 4 {
				check("none"[:at] + letter + "none"[at+1:])
			}
		}
	}
}
