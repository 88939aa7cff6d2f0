package impl

import (
	"strconv"
	"strings"
)

// MaxVarint is the largest number that fits in longestVarint groups of seven bits.
const MaxVarint = 562949953421311

const (
	widestFixed   = 7
	longestVarint = 7
	mostDigits    = 9
	hexDigits     = "0123456789abcdef"
)

// EncodeFixed returns n as width bytes, most significant byte first, or the
// empty string if there is no such encoding.
func EncodeFixed(n int, width int) string {
	if !isWidth(width) || n < 0 || n>>(8*width) != 0 {
		return ""
	}
	out := make([]byte, width)
	for i := width - 1; i >= 0; i-- {
		out[i] = byte(n)
		n >>= 8
	}
	return string(out)
}

// DecodeFixed returns the number that the first width bytes of s encode.
func DecodeFixed(s string, width int) (int, bool) {
	if !isWidth(width) || len(s) < width {
		return 0, false
	}
	n := 0
	for i := 0; i < width; i++ {
		n = n<<8 | int(s[i])
	}
	return n, true
}

func isWidth(width int) bool {
	return width >= 1 && width <= widestFixed
}

// EncodeVarint returns n as the shortest varint, or the empty string if n is
// out of range.
func EncodeVarint(n int) string {
	if n < 0 || n > MaxVarint {
		return ""
	}
	out := make([]byte, 0, longestVarint)
	for n >= 128 {
		out = append(out, byte(n&127|128))
		n >>= 7
	}
	return string(append(out, byte(n)))
}

// DecodeVarint returns the number whose varint begins s, and the length of
// that varint; 0 and 0 if s begins with none.
func DecodeVarint(s string) (int, int) {
	n := 0
	for i := 0; i < len(s) && i < longestVarint; i++ {
		n |= int(s[i]&127) << (7 * i)
		if s[i] >= 128 {
			continue
		}
		// Encoding again rejects varints with unnecessary bytes.
		if EncodeVarint(n) != s[:i+1] {
			return 0, 0
		}
		return n, i + 1
	}
	return 0, 0
}

// EncodeHex returns two lowercase hexadecimal digits for each byte of s.
func EncodeHex(s string) string {
	out := make([]byte, 0, 2*len(s))
	for i := 0; i < len(s); i++ {
		out = append(out, hexDigits[s[i]>>4], hexDigits[s[i]&15])
	}
	return string(out)
}

// DecodeHex returns the string for which EncodeHex returns s.
func DecodeHex(s string) (string, bool) {
	if len(s)%2 != 0 {
		return "", false
	}
	out := make([]byte, len(s)/2)
	// A rune of several bytes is no digit, so i counts the digits so far.
	for i, r := range s {
		digit := hexValue(r)
		if digit < 0 {
			return "", false
		}
		out[i/2] = out[i/2]<<4 | byte(digit)
	}
	return string(out), true
}

// hexValue returns the value of a lowercase hexadecimal digit, and -1 for any
// other rune.
func hexValue(r rune) int {
	switch {
	case r >= '0' && r <= '9':
		return int(r - '0')
	case r >= 'a' && r <= 'f':
		return int(r-'a') + 10
	}
	return -1
}

// FormatInt returns n in decimal.
func FormatInt(n int) string {
	return strconv.Itoa(n)
}

// ParseInt returns the number of at most mostDigits digits that FormatInt
// formats as s.
func ParseInt(s string) (int, bool) {
	digits, negative := strings.CutPrefix(s, "-")
	if len(digits) > mostDigits {
		return 0, false
	}
	n := 0
	for _, r := range digits {
		if r < '0' || r > '9' {
			return 0, false
		}
		n = 10*n + int(r-'0')
	}
	if negative {
		n = -n
	}
	// Formatting again rejects leading zeros, -0 and the lack of digits.
	if FormatInt(n) != s {
		return 0, false
	}
	return n, true
}
