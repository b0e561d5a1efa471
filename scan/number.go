package scan

import (
	"strconv"
	"strings"

	"outlaw/api"
)

// Number returns the digits of n.
func Number(n int64) (string, api.Errno) {
	if n < -api.MostNumber || n > api.MostNumber {
		return "", api.ErrArg
	}
	return strconv.FormatInt(n, 10), api.OK
}

// ReadNumber returns the number with which s begins, and its size.
func ReadNumber(s string) (n int64, size int, e api.Errno) {
	minus := strings.HasPrefix(s, "-")
	digits := strings.TrimPrefix(s, "-")
	if digits == "" {
		return 0, 0, api.ErrShort
	}
	if !isDigit(digits[0]) {
		return 0, 0, api.ErrBad
	}
	n, size = readDigits(digits)
	if digits[0] == '0' && (minus || size > 1) {
		return 0, 0, api.ErrBad
	}
	if n > api.MostNumber {
		return 0, 0, api.ErrLong
	}
	if minus {
		return -n, size + 1, api.OK
	}
	return n, size, api.OK
}

// readDigits passes over all digits, but adds up no more of them once the
// number is above MostNumber: so it can't overflow, and stays above.
func readDigits(s string) (n int64, size int) {
digits:
	for size < len(s) {
		switch c := s[size]; {
		case !isDigit(c):
			break digits
		case n <= api.MostNumber:
			n = n*10 + int64(c-'0')
		}
		size++
	}
	return n, size
}

func isDigit(c byte) bool { return c >= '0' && c <= '9' }
