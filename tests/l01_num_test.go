package tests

import (
	"fmt"
	"math"
	"regexp"
	"strings"
	"testing"

	"loop.example/g01988/impl"
)

// Promise 1: each decoder is the inverse of its encoder and accepts nothing else.

var badWidths = []int{math.MinInt, -8, -1, 0, 8, 9, 64, math.MaxInt}

func TestEncodeFixed(t *testing.T) {
	cases := []struct {
		n, width int
		want     string
	}{
		{258, 2, "\x01\x02"},
		{258, 3, "\x00\x01\x02"},
		{0, 1, "\x00"},
		{0, 7, "\x00\x00\x00\x00\x00\x00\x00"},
		{255, 1, "\xff"},
		{256, 1, ""},
		{0x01020304050607, 7, "\x01\x02\x03\x04\x05\x06\x07"},
		{0x010203040506, 5, ""},
		{-1, 1, ""},
		{-1, 7, ""},
		{math.MinInt, 7, ""},
		{math.MaxInt, 7, ""},
	}
	for _, c := range cases {
		if got := impl.EncodeFixed(c.n, c.width); got != c.want {
			t.Errorf("EncodeFixed(%d, %d) = %q, want %q", c.n, c.width, got, c.want)
		}
	}
}

func TestFixedWidths(t *testing.T) {
	for _, width := range badWidths {
		for _, n := range []int{0, 1, 258} {
			if got := impl.EncodeFixed(n, width); got != "" {
				t.Errorf("EncodeFixed(%d, %d) = %q, want nothing", n, width, got)
			}
		}
		if n, ok := impl.DecodeFixed("\x01\x02\x03\x04\x05\x06\x07\x08\x09", width); n != 0 || ok {
			t.Errorf("DecodeFixed with width %d = %d, %v", width, n, ok)
		}
	}
}

func TestFixedLargestNumbers(t *testing.T) {
	for width := 1; width <= 7; width++ {
		largest := 1<<(8*width) - 1
		all := strings.Repeat("\xff", width)
		if got := impl.EncodeFixed(largest, width); got != all {
			t.Errorf("EncodeFixed(%d, %d) = %q, want %q", largest, width, got, all)
		}
		if n, ok := impl.DecodeFixed(all, width); n != largest || !ok {
			t.Errorf("DecodeFixed(%q, %d) = %d, %v", all, width, n, ok)
		}
		if got := impl.EncodeFixed(largest+1, width); got != "" {
			t.Errorf("EncodeFixed(%d, %d) = %q, want nothing", largest+1, width, got)
		}
	}
}

func TestFixedInverse(t *testing.T) {
	numbers := []int{0, 1, 127, 128, 255, 256, 258, 65535, 65536, 1<<24 - 1, 1 << 24, 0x01020304050607, 1<<56 - 1}
	for width := 1; width <= 7; width++ {
		for _, n := range numbers {
			s := impl.EncodeFixed(n, width)
			if n >= 1<<(8*width) {
				if s != "" {
					t.Errorf("EncodeFixed(%d, %d) = %q, want nothing", n, width, s)
				}
				continue
			}
			if len(s) != width {
				t.Errorf("EncodeFixed(%d, %d) has %d bytes", n, width, len(s))
			}
			if got, ok := impl.DecodeFixed(s, width); got != n || !ok {
				t.Errorf("DecodeFixed(%q, %d) = %d, %v, want %d", s, width, got, ok, n)
			}
			if got, ok := impl.DecodeFixed(s+"\xff\x00", width); got != n || !ok {
				t.Errorf("DecodeFixed(%q and more, %d) = %d, %v, want %d", s, width, got, ok, n)
			}
		}
	}
}

func TestDecodeFixedShort(t *testing.T) {
	for width := 1; width <= 7; width++ {
		for size := 0; size <= 8; size++ {
			s := "\x81\x82\x83\x84\x85\x86\x87\x88"[:size]
			n, ok := impl.DecodeFixed(s, width)
			if size < width && (n != 0 || ok) {
				t.Errorf("DecodeFixed(%q, %d) = %d, %v, want 0, false", s, width, n, ok)
			}
			if size >= width && (!ok || impl.EncodeFixed(n, width) != s[:width]) {
				t.Errorf("DecodeFixed(%q, %d) = %d, %v", s, width, n, ok)
			}
		}
	}
}

func TestVarintValues(t *testing.T) {
	cases := []struct {
		n int
		s string
	}{
		{0, "\x00"},
		{1, "\x01"},
		{127, "\x7f"},
		{128, "\x80\x01"},
		{300, "\xac\x02"},
		{16383, "\xff\x7f"},
		{16384, "\x80\x80\x01"},
		{1<<42 - 1, "\xff\xff\xff\xff\xff\x7f"},
		{1 << 42, "\x80\x80\x80\x80\x80\x80\x01"},
		{impl.MaxVarint - 1, "\xfe\xff\xff\xff\xff\xff\x7f"},
		{impl.MaxVarint, "\xff\xff\xff\xff\xff\xff\x7f"},
	}
	for _, c := range cases {
		if got := impl.EncodeVarint(c.n); got != c.s {
			t.Errorf("EncodeVarint(%d) = %q, want %q", c.n, got, c.s)
		}
		for _, rest := range []string{"", "\x00", "\x80", "z\xff"} {
			if n, size := impl.DecodeVarint(c.s + rest); n != c.n || size != len(c.s) {
				t.Errorf("DecodeVarint(%q) = %d, %d, want %d, %d", c.s+rest, n, size, c.n, len(c.s))
			}
		}
	}
}

func TestEncodeVarintOutOfRange(t *testing.T) {
	if impl.MaxVarint != 562949953421311 {
		t.Errorf("MaxVarint = %d", impl.MaxVarint)
	}
	for _, n := range []int{-1, -128, math.MinInt, impl.MaxVarint + 1, math.MaxInt} {
		if got := impl.EncodeVarint(n); got != "" {
			t.Errorf("EncodeVarint(%d) = %q, want nothing", n, got)
		}
	}
}

func TestDecodeVarintRejects(t *testing.T) {
	rejected := []string{
		"",
		// cut off
		"\x80", "\xff", "\xac", "\x80\x80", "\xff\xff\xff\xff\xff\xff",
		"\xff\xff\xff\xff\xff\xff\xff",
		// unnecessary bytes
		"\x80\x00", "\x81\x00", "\xff\x00", "\xac\x82\x00", "\x80\x80\x00",
		"\x80\x00\x01", "\xff\xff\xff\xff\xff\xff\x00",
		"\xff\xff\xff\xff\xff\xff\xff\x00",
		// greater than MaxVarint
		"\x80\x80\x80\x80\x80\x80\x80\x01",
		"\xff\xff\xff\xff\xff\xff\xff\x7f",
		"\x80\x80\x80\x80\x80\x80\x80\x80\x80\x01",
		"\x81\x80\x80\x80\x80\x80\x80\x80\x80\x02",
		strings.Repeat("\x80", 100) + "\x01",
	}
	for _, s := range rejected {
		if n, size := impl.DecodeVarint(s); n != 0 || size != 0 {
			t.Errorf("DecodeVarint(%q) = %d, %d, want 0, 0", s, n, size)
		}
	}
}

// TestDecodeVarintAll holds the decoder against the table of all encodings of at most two bytes.
func TestDecodeVarintAll(t *testing.T) {
	numbers := map[string]int{}
	for n := 0; n < 1<<14; n++ {
		numbers[impl.EncodeVarint(n)] = n
	}
	if len(numbers) != 1<<14 {
		t.Errorf("%d different encodings", len(numbers))
	}
	for i := 0; i < 1<<16; i++ {
		s := string([]byte{byte(i >> 8), byte(i)})
		wantSize := 0
		wantNumber := 0
		for size := 1; size <= 2; size++ {
			if n, ok := numbers[s[:size]]; ok {
				wantNumber, wantSize = n, size
			}
		}
		if n, size := impl.DecodeVarint(s); n != wantNumber || size != wantSize {
			t.Fatalf("DecodeVarint(%q) = %d, %d, want %d, %d", s, n, size, wantNumber, wantSize)
		}
	}
}

func TestHexValues(t *testing.T) {
	cases := []struct{ s, hex string }{
		{"", ""},
		{"a\xff", "61ff"},
		{"\x00", "00"},
		{"\x0f\xf0", "0ff0"},
		{"\x01\x23\x45\x67\x89\xab\xcd\xef", "0123456789abcdef"},
		{"\u00e9", "c3a9"},
		{"\xff\xfe\x80", "fffe80"},
	}
	for _, c := range cases {
		if got := impl.EncodeHex(c.s); got != c.hex {
			t.Errorf("EncodeHex(%q) = %q, want %q", c.s, got, c.hex)
		}
		if got, ok := impl.DecodeHex(c.hex); got != c.s || !ok {
			t.Errorf("DecodeHex(%q) = %q, %v, want %q", c.hex, got, ok, c.s)
		}
	}
}

func TestHexEveryByte(t *testing.T) {
	all := ""
	for i := 0; i < 256; i++ {
		s := string([]byte{byte(i)})
		if got := impl.EncodeHex(s); got != fmt.Sprintf("%02x", i) {
			t.Errorf("EncodeHex(%q) = %q", s, got)
		}
		all += s
	}
	if got, ok := impl.DecodeHex(impl.EncodeHex(all)); got != all || !ok {
		t.Errorf("DecodeHex of all bytes = %q, %v", got, ok)
	}
}

func TestDecodeHexEveryPair(t *testing.T) {
	const digits = "0123456789abcdef"
	for i := 0; i < 1<<16; i++ {
		pair := []byte{byte(i >> 8), byte(i)}
		high := strings.IndexByte(digits, pair[0])
		low := strings.IndexByte(digits, pair[1])
		want := ""
		if high >= 0 && low >= 0 {
			want = string([]byte{byte(16*high + low)})
		}
		if got, ok := impl.DecodeHex(string(pair)); got != want || ok != (want != "") {
			t.Fatalf("DecodeHex(%q) = %q, %v, want %q", pair, got, ok, want)
		}
	}
}

func TestDecodeHexRejects(t *testing.T) {
	rejected := []string{
		"6", "61f", "61ff0",
		"6F", "FF", "6g", "g6", "0x61", " 61 ", "61 f", "6:", "6/", "6`", "61\n0",
		"\u00e9", "6\u00e9f", "\u0661\u0661", "\uff16\uff11", "\xff\xff", "61\xff\xff", "\x00\x00",
	}
	for _, s := range rejected {
		if got, ok := impl.DecodeHex(s); got != "" || ok {
			t.Errorf("DecodeHex(%q) = %q, %v, want nothing", s, got, ok)
		}
	}
}

func TestFormatInt(t *testing.T) {
	cases := []struct {
		n    int
		want string
	}{
		{0, "0"},
		{7, "7"},
		{-7, "-7"},
		{10, "10"},
		{-120, "-120"},
		{999999999, "999999999"},
		{1000000000, "1000000000"},
		{math.MaxInt, "9223372036854775807"},
		{math.MinInt, "-9223372036854775808"},
		{math.MinInt + 1, "-9223372036854775807"},
	}
	for _, c := range cases {
		if got := impl.FormatInt(c.n); got != c.want {
			t.Errorf("FormatInt(%d) = %q, want %q", c.n, got, c.want)
		}
	}
}

func TestParseIntInverse(t *testing.T) {
	numbers := []int{0, 1, -1, 7, -7, 9, 10, -10, 99, 100, 123456789, 100000000, 999999998, 999999999, -100000000, -999999999}
	for n := -2000; n <= 2000; n++ {
		numbers = append(numbers, n)
	}
	for _, n := range numbers {
		if got, ok := impl.ParseInt(impl.FormatInt(n)); got != n || !ok {
			t.Errorf("ParseInt(%q) = %d, %v", impl.FormatInt(n), got, ok)
		}
	}
}

func TestParseIntRejects(t *testing.T) {
	rejected := []string{
		"", "-", "--1", "-0", "00", "01", "07", "-07", "000000001", "0000000001", "-00",
		"+1", "+0", " 1", "1 ", "1\n", "\t1", "1-", "1-2", "- 1",
		"1e3", "1.0", "0x10", "1_000", "a", "1a", "1/", "1:", "\x00", "1\x00", "1\xff",
		"\u0661", "\uff11", "\u22121", "1\u00e9",
		// ten digits and more
		"1000000000", "-1000000000", "9999999999", "-9999999999",
		"9223372036854775807", "-9223372036854775808", "18446744073709551617",
		strings.Repeat("1", 100), strings.Repeat("0", 100), "-" + strings.Repeat("9", 1000),
	}
	for _, s := range rejected {
		if n, ok := impl.ParseInt(s); n != 0 || ok {
			t.Errorf("ParseInt(%q) = %d, %v, want 0, false", s, n, ok)
		}
	}
}

// TestParseIntAll tries all strings of at most five bytes from an alphabet of digits and others.
func TestParseIntAll(t *testing.T) {
	number := regexp.MustCompile(`\A(0|-?[1-9][0-9]*)\z`)
	strs := []string{""}
	for from := 0; from < len(strs); from++ {
		s := strs[from]
		n, ok := impl.ParseInt(s)
		if ok != number.MatchString(s) || ok && fmt.Sprint(n) != s || !ok && n != 0 {
			t.Fatalf("ParseInt(%q) = %d, %v", s, n, ok)
		}
		if len(s) == 5 {
			continue
		}
		for _, b := range "-+019_ a" {
			strs = append(strs, s+string(b))
		}
	}
}
