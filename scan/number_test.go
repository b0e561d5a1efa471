package scan_test

import (
	"math"
	"math/big"
	"regexp"
	"strconv"
	"strings"
	"testing"

	"outlaw/api"
	"outlaw/scan"
)

// P1.2: Number writes what is in range, and nothing else.
func TestNumber(t *testing.T) {
	for _, x := range []struct {
		n int64
		s string
		e api.Errno
	}{
		{0, "0", api.OK},
		{7, "7", api.OK},
		{-7, "-7", api.OK},
		{10, "10", api.OK},
		{-100, "-100", api.OK},
		{1<<53 - 2, "9007199254740990", api.OK},
		{1<<53 - 1, "9007199254740991", api.OK},
		{1 << 53, "", api.ErrArg},
		{-(1<<53 - 1), "-9007199254740991", api.OK},
		{-(1 << 53), "", api.ErrArg},
		{math.MaxInt64, "", api.ErrArg},
		{math.MinInt64, "", api.ErrArg},
	} {
		if s, e := scan.Number(x.n); s != x.s || e != x.e {
			t.Errorf("%d: %q %d, want %q %d", x.n, s, e, x.s, x.e)
		}
	}
}

func checkRead(t *testing.T, s string, n int64, size int, e api.Errno) {
	t.Helper()
	gotN, gotSize, gotE := scan.ReadNumber(s)
	if gotN != n || gotSize != size || gotE != e {
		t.Errorf("%.40q: %d %d %d, want %d %d %d", s, gotN, gotSize, gotE, n, size, e)
	}
}

func TestReadNumber(t *testing.T) {
	for _, x := range []struct {
		s    string
		n    int64
		size int
		e    api.Errno
	}{
		{"0", 0, 1, api.OK},
		{"0x", 0, 1, api.OK},
		{"0-1", 0, 1, api.OK},
		{"5", 5, 1, api.OK},
		{"-12,", -12, 3, api.OK},
		{"12-3", 12, 2, api.OK},
		{"1e9", 1, 1, api.OK},
		{"10.5", 10, 2, api.OK},
		{"9:", 9, 1, api.OK},
		{"9/", 9, 1, api.OK},
		{"9007199254740991", api.MostNumber, 16, api.OK},
		{"-9007199254740991]", -api.MostNumber, 17, api.OK},
		{"", 0, 0, api.ErrShort},
		{"-", 0, 0, api.ErrShort},
		{"--1", 0, 0, api.ErrBad},
		{"-x", 0, 0, api.ErrBad},
		{"- 1", 0, 0, api.ErrBad},
		{"+1", 0, 0, api.ErrBad},
		{" 1", 0, 0, api.ErrBad},
		{".5", 0, 0, api.ErrBad},
		{"x", 0, 0, api.ErrBad},
		{":", 0, 0, api.ErrBad},
		{"/", 0, 0, api.ErrBad},
		{"\xff", 0, 0, api.ErrBad},
		{"\u0661", 0, 0, api.ErrBad},
		{"01", 0, 0, api.ErrBad},
		{"00", 0, 0, api.ErrBad},
		{"-0", 0, 0, api.ErrBad},
		{"-0.5", 0, 0, api.ErrBad},
		{"-01", 0, 0, api.ErrBad},
		{"-00", 0, 0, api.ErrBad},
		{"0" + strings.Repeat("9", 40), 0, 0, api.ErrBad},
		{"-0" + strings.Repeat("9", 40), 0, 0, api.ErrBad},
		{"9007199254740992", 0, 0, api.ErrLong},
		{"-9007199254740992", 0, 0, api.ErrLong},
		{"90071992547409910", 0, 0, api.ErrLong},
		{"9223372036854775808", 0, 0, api.ErrLong},
		{"18446744073709551616", 0, 0, api.ErrLong},
		{"18446744073709551617", 0, 0, api.ErrLong},
		{"184467440737095516160000", 0, 0, api.ErrLong},
		{strings.Repeat("9", 100000), 0, 0, api.ErrLong},
		{"-1" + strings.Repeat("0", 100000), 0, 0, api.ErrLong},
	} {
		checkRead(t, x.s, x.n, x.size, x.e)
	}
}

var digitsAhead = regexp.MustCompile(`^(-?)([0-9]*)`)

// slowNumber reads as the chapter defines it, by a pattern and big numbers.
func slowNumber(s string) (int64, int, api.Errno) {
	m := digitsAhead.FindStringSubmatch(s)
	switch {
	case s == m[1]:
		return 0, 0, api.ErrShort
	case m[2] == "":
		return 0, 0, api.ErrBad
	case m[2][0] == '0' && (len(m[2]) > 1 || m[1] == "-"):
		return 0, 0, api.ErrBad
	}
	n, _ := new(big.Int).SetString(m[0], 10)
	if n.CmpAbs(big.NewInt(api.MostNumber)) > 0 {
		return 0, 0, api.ErrLong
	}
	return n.Int64(), len(m[0]), api.OK
}

func TestReadNumberOfAllShortTexts(t *testing.T) {
	const bytes = "-0195x,"
	var try func(s string, more int)
	try = func(s string, more int) {
		n, size, e := slowNumber(s)
		checkRead(t, s, n, size, e)
		for i := 0; more > 0 && i < len(bytes); i++ {
			try(s+bytes[i:i+1], more-1)
		}
	}
	try("", 5)
	for _, ahead := range []string{"900719925474099", "-900719925474099", "922337203685477580"} {
		try(ahead, 3)
	}
}

// P1.3: ReadNumber of Number(n) is n.
func TestNumbersComeBack(t *testing.T) {
	check := func(n int64) {
		s, e := scan.Number(n)
		if e != api.OK || s != strconv.FormatInt(n, 10) {
			t.Errorf("%d: %q %d", n, s, e)
		}
		checkRead(t, s, n, len(s), api.OK)
		checkRead(t, s+"}", n, len(s), api.OK)
	}
	for n := int64(-1200); n <= 1200; n++ {
		check(n)
	}
	for n := int64(1); n <= api.MostNumber; n *= 3 {
		for _, m := range []int64{n - 1, n, n + 1, api.MostNumber - n} {
			check(m)
			check(-m)
		}
	}
}
