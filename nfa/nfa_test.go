package nfa_test

import (
	"math"
	"math/rand"
	"slices"
	"strings"
	"testing"
	"unsafe"

	"outlaw/api"
	"outlaw/glob"
	"outlaw/nfa"
)

// made returns the automaton of p, which is a glob.
func made(t *testing.T, p string, fold bool) *nfa.Nfa {
	t.Helper()
	n, e := nfa.New(p, fold)
	if e != api.OK || n == nil {
		t.Fatalf("%q: %v, error %d", p, n, e)
	}
	return n
}

// stepIs checks one step against the second way, and that l stays.
func stepIs(t *testing.T, n *nfa.Nfa, l []int, c byte) []int {
	t.Helper()
	norm, fold := n.Pattern()
	passed := slices.Clone(l)
	got, want := n.Step(passed, c), slowStep(norm, l, c, fold)
	if !slices.Equal(got, want) {
		t.Errorf("%q, fold %v, from %v by %q: %v, want %v", norm, fold, l, c, got, want)
	}
	if !slices.Equal(passed, l) {
		t.Errorf("%q: what was passed became %v, was %v", norm, passed, l)
	}
	return got
}

// acceptsIs checks Accepts.
func acceptsIs(t *testing.T, n *nfa.Nfa, l []int, want bool) {
	t.Helper()
	if got := n.Accepts(l); got != want {
		norm, fold := n.Pattern()
		t.Errorf("%q, fold %v, accepts %v: %v, want %v", norm, fold, l, got, want)
	}
}

// runIs checks the sets after each byte of text, and whether the last accepts.
func runIs(t *testing.T, n *nfa.Nfa, text string) {
	t.Helper()
	norm, fold := n.Pattern()
	l := n.Start()
	for i := range len(text) + 1 {
		if want := slowReached(norm, text[:i], fold); !slices.Equal(l, want) {
			t.Errorf("%q, fold %v, after %q: %v, want %v", norm, fold, text[:i], l, want)
		}
		if i < len(text) {
			l = n.Step(l, text[i])
		}
	}
	want := slowMatch(norm, text)
	if fold {
		want = slowMatch(slowFold(norm), slowFold(text))
	}
	acceptsIs(t, n, l, want)
	if got := n.Run(text); got != want {
		t.Errorf("%q, fold %v: %q is run to %v, want %v", norm, fold, text, got, want)
	}
	if got := glob.Match(norm, text, fold); got != want {
		t.Errorf("%q, fold %v: %q is matched %v, want %v", norm, fold, text, got, want)
	}
}

// The numbers that the document gives.
func TestNumbers(t *testing.T) {
	if api.ErrNil != 1 || api.ErrArg != 2 || api.ErrLong != 4 || api.MostGlob != 255 {
		t.Error("numbers")
	}
}

// The example of the chapter.
func TestExample(t *testing.T) {
	n := made(t, "*x", false)
	start := n.Start()
	if !slices.Equal(start, []int{0, 1}) || !slices.Equal(n.Step(start, 'x'), []int{0, 1, 2}) {
		t.Error(start, n.Step(start, 'x'))
	}
}

// P8.1: what is no glob has no automaton.
func TestNew(t *testing.T) {
	for _, x := range []struct {
		p    string
		want api.Errno
	}{
		{"", api.ErrArg},
		{"a", api.OK},
		{"*", api.OK},
		{"\x00\xff", api.OK},
		{strings.Repeat("a", 255), api.OK},
		{strings.Repeat("*", 255), api.OK},
		{strings.Repeat("a", 256), api.ErrLong},
		{strings.Repeat("*", 256), api.ErrLong}, // though its normal form is short
	} {
		for _, fold := range []bool{false, true} {
			n, e := nfa.New(x.p, fold)
			if e != x.want || e != glob.Check(x.p) || (n != nil) != (e == api.OK) {
				t.Errorf("%.20q: error %d, want %d, automaton %v", x.p, e, x.want, n)
			}
		}
	}
}

// P8.1 and P8.2: what is told of a glob without a text.
func TestForms(t *testing.T) {
	for _, x := range []struct {
		p, norm string
		start   []int
	}{
		{"a", "a", []int{0}},
		{"?", "?", []int{0}},
		{"*", "*", []int{0, 1}},
		{"**", "*", []int{0, 1}},
		{"*?", "?*", []int{0}},
		{"*x", "*x", []int{0, 1}},
		{"*x*", "*x*", []int{0, 1}},
		{"x*", "x*", []int{0}},
		{"**A**?b", "*A?*b", []int{0, 1}},
		{"Evil.COM\xff", "Evil.COM\xff", []int{0}},
		{strings.Repeat("*", 255), "*", []int{0, 1}},
		{strings.Repeat("*?", 127), strings.Repeat("?", 127) + "*", []int{0}},
		{strings.Repeat("?", 255), strings.Repeat("?", 255), []int{0}},
	} {
		for _, fold := range []bool{false, true} {
			n := made(t, x.p, fold)
			norm, isFold := n.Pattern()
			if norm != x.norm || norm != glob.Norm(x.p) || isFold != fold {
				t.Errorf("%q: pattern %q %v, want %q %v", x.p, norm, isFold, x.norm, fold)
			}
			if got := n.States(); got != len(x.norm)+1 {
				t.Errorf("%q: %d states, want %d", x.p, got, len(x.norm)+1)
			}
			if got := n.Start(); !slices.Equal(got, x.start) {
				t.Errorf("%q: start %v, want %v", x.p, got, x.start)
			}
		}
	}
}

// P8.1: the closure of what is passed is not taken, that of what is reached is.
func TestStep(t *testing.T) {
	for _, x := range []struct {
		p    string
		fold bool
		l    []int
		c    byte
		want []int
	}{
		{"*x", false, []int{0}, 'x', []int{0, 1}},
		{"*x", false, []int{1}, 'x', []int{2}},
		{"*x", false, []int{0, 1}, 'y', []int{0, 1}},
		{"*x", false, []int{2}, 'x', nil},
		{"*x", false, nil, 'x', nil},
		{"a*b", false, []int{0}, 'a', []int{1, 2}},
		{"a*b", false, []int{1}, 'b', []int{1, 2}},
		{"a*b", false, []int{2}, 'b', []int{3}},
		{"a*b", false, []int{1, 2}, 'b', []int{1, 2, 3}},
		{"a*b", false, []int{0}, 'b', nil},
		{"a?", false, []int{0, 1}, 'a', []int{1, 2}},
		{"a?", false, []int{1}, '?', []int{2}},
		{"a?", false, []int{0}, '?', nil},
		{"a*", false, []int{0}, '*', nil},
		{"a*", false, []int{1}, '*', []int{1, 2}},
		{"a", false, []int{0}, 'A', nil},
		{"a", true, []int{0}, 'A', []int{1}},
		{"A", true, []int{0}, 'a', []int{1}},
		{"A", true, []int{0}, 'A', []int{1}},
		{"A", false, []int{0}, 'a', nil},
		{"\xe1", true, []int{0}, '\xc1', nil},
		{"[", true, []int{0}, '{', nil},
		{"ab?*c", false, []int{4, 2, 0, 2, 9, -1, 3, 4}, 'c', []int{3, 4, 5}},
		{"ab?*c", false, []int{5, 6, -1, math.MinInt, math.MaxInt}, 'c', nil},
	} {
		n := made(t, x.p, x.fold)
		if got := stepIs(t, n, x.l, x.c); !slices.Equal(got, x.want) {
			t.Errorf("%q, fold %v, from %v by %q: %v, want %v", x.p, x.fold, x.l, x.c, got, x.want)
		}
	}
}

// P8.1: the end alone accepts, wherever it is in the list.
func TestAccepts(t *testing.T) {
	n := made(t, "a*", false)
	for _, x := range []struct {
		l    []int
		want bool
	}{
		{nil, false}, {[]int{}, false}, {[]int{0}, false}, {[]int{1}, false}, {[]int{2}, true},
		{[]int{0, 1, 2}, true}, {[]int{2, 0}, true}, {[]int{9, 2, 2, -1}, true},
		{[]int{3}, false}, {[]int{-1, math.MinInt, math.MaxInt}, false},
	} {
		acceptsIs(t, n, x.l, x.want)
	}
}

// P8.1 and P8.3: all short globs, from all sets of states, and that more
// states lead to no fewer.
func TestAllSteps(t *testing.T) {
	for _, p := range texts(4, "a", "B", "*", "?")[1:] {
		for _, fold := range []bool{false, true} {
			n := made(t, p, fold)
			for _, c := range []byte("aAbB*?") {
				reached := map[int][]int{} // by sets as the bits of a number
				for _, l := range lists(n.States()) {
					acceptsIs(t, n, l, slices.Contains(l, n.States()-1))
					reached[bits(l)] = stepIs(t, n, l, c)
				}
				growsWith(t, reached)
			}
		}
	}
}

func bits(l []int) int {
	sum := 0
	for _, state := range l {
		sum |= 1 << state
	}
	return sum
}

// growsWith checks that each set leads to no fewer states than its parts.
func growsWith(t *testing.T, reached map[int][]int) {
	t.Helper()
	for set, to := range reached {
		for part, l := range reached {
			if part&set == part && bits(l)&bits(to) != bits(l) {
				t.Errorf("%b leads to %v, and %b, which has more, to %v", part, l, set, to)
			}
		}
	}
}

// P8.1 to P8.3: all short globs, and all short texts.
func TestAllShort(t *testing.T) {
	all := texts(4, "a", "b", "A", "*")
	for _, p := range texts(4, "a", "B", "*", "?")[1:] {
		for _, fold := range []bool{false, true} {
			n := made(t, p, fold)
			for _, text := range all {
				runIs(t, n, text)
			}
		}
	}
}

// P8.1 and P8.3: every byte of a glob against every byte of a text.
func TestEveryByte(t *testing.T) {
	for c := range 256 {
		for _, fold := range []bool{false, true} {
			n := made(t, string([]byte{byte(c), '*', byte(c)}), fold)
			for d := range 256 {
				stepIs(t, n, []int{2, 0}, byte(d))
				runIs(t, n, string([]byte{byte(d), byte(d), byte(c)}))
			}
		}
	}
}

// P8.1 to P8.3: longer globs, lists in any order with what is no state, and
// texts of their form or nearly so. The seed is fixed, so that each run is the
// same.
func TestLonger(t *testing.T) {
	r := rand.New(rand.NewSource(8))
	some := func(letters string, least, most int) string {
		b := make([]byte, least+r.Intn(most-least+1))
		for i := range b {
			b[i] = letters[r.Intn(len(letters))]
		}
		return string(b)
	}
	accepted := 0
	for range 4000 {
		p := some("aabAB?**", 1, 24)
		n := made(t, p, r.Intn(2) == 0)
		for range 10 {
			l := make([]int, r.Intn(12))
			for i := range l {
				l[i] = r.Intn(n.States()+6) - 3
			}
			stepIs(t, n, l, "abAB*?"[r.Intn(6)])
			acceptsIs(t, n, l, slices.Contains(l, n.States()-1))
		}
		text := ""
		for i := range len(p) {
			switch p[i] {
			case '*':
				text += some("abAB", 0, 3)
			case '?':
				text += some("abAB*?", 1, 1)
			default:
				text += p[i : i+1]
			}
		}
		if !n.Run(text) {
			t.Errorf("%q does not run %q", p, text)
		}
		if len(text) > 0 {
			at := r.Intn(len(text))
			text = text[:at] + some("abAB", 0, 1) + text[at+1:]
		}
		runIs(t, n, text)
		if n.Run(text) {
			accepted++
		}
	}
	if accepted < 400 || accepted > 3600 {
		t.Errorf("%d of the texts that are nearly of the form are accepted: too one-sided", accepted)
	}
}

// P8.2 and P8.3: the longest globs, and long texts.
func TestRunLong(t *testing.T) {
	const most = 1 << 14
	some := strings.Repeat("a", most)
	for _, p := range []string{
		strings.Repeat("*a", 127), strings.Repeat("*a", 127) + "b", strings.Repeat("a", 255), strings.Repeat("?", 255),
		strings.Repeat("?", 254) + "*", "*" + strings.Repeat("a", 254), "*" + strings.Repeat("a", 253) + "b", strings.Repeat("*", 255),
	} {
		for _, text := range []string{"", some[:126], some[:127], some[:253], some[:254], some[:255], some[:256], some, some + "b"} {
			for _, fold := range []bool{false, true} {
				n := made(t, p, fold)
				if got, want := n.Run(text), glob.Match(p, text, fold); got != want {
					t.Errorf("%.20q of %d bytes, %d bytes: %v, want %v", p, len(p), len(text), got, want)
				}
			}
		}
	}
}

// P8.1 and P8.2, rule 8: what New did not return answers nothing.
func TestNotMade(t *testing.T) {
	copied := *made(t, "*", false)
	for name, n := range map[string]*nfa.Nfa{"nil": nil, "zero": {}, "copy": &copied} {
		if n.States() != 0 || n.Start() != nil || n.Run("") || n.Run("a") {
			t.Errorf("%s: %d states, start %v, runs %v, %v", name, n.States(), n.Start(), n.Run(""), n.Run("a"))
		}
		if p, fold := n.Pattern(); p != "" || fold {
			t.Errorf("%s: pattern %q %v", name, p, fold)
		}
		for _, l := range [][]int{nil, {0}, {0, 1}, {-1}} {
			if n.Step(l, 'a') != nil || n.Accepts(l) {
				t.Errorf("%s: from %v to %v, accepts %v", name, l, n.Step(l, 'a'), n.Accepts(l))
			}
		}
	}
}

// Rule 3: results share no memory, neither with each other nor with what is
// kept, also not in their spare capacity.
func TestNewMemory(t *testing.T) {
	p := "*a*b*c"
	n := made(t, p, false)
	for _, of := range []func() []int{
		n.Start,
		func() []int { return n.Step([]int{0, 1, 2}, 'a') },
	} {
		first := of()
		kept := slices.Clone(first)
		first = first[:cap(first)]
		for i := range first {
			first[i] = 3
		}
		if second := of(); !slices.Equal(second, kept) {
			t.Errorf("%v became %v", kept, second)
		}
	}
	passed := make([]int, 3, 64)
	for i := range passed {
		passed[i] = i
	}
	got := n.Step(passed, 'a')
	for i := range passed[:cap(passed)] {
		passed[:cap(passed)][i] = 5
	}
	if !slices.Equal(got, []int{0, 1, 2, 3}) {
		t.Errorf("the answer became %v", got)
	}
	one, _ := n.Pattern()
	other, _ := n.Pattern()
	if unsafe.StringData(one) == unsafe.StringData(other) || unsafe.StringData(one) == unsafe.StringData(p) {
		t.Error("the pattern shares memory")
	}
}

// P8.1 and P8.2: nothing is kept of one call for another.
func TestNothingIsKept(t *testing.T) {
	n := made(t, "*ab", true)
	for range 3 {
		if !n.Run("xAB") || n.Run("xABx") || n.Run("") {
			t.Error("runs differ from call to call")
		}
		if got := n.Step([]int{1}, 'A'); !slices.Equal(got, []int{2}) {
			t.Errorf("step %v", got)
		}
		if got := n.Start(); !slices.Equal(got, []int{0, 1}) {
			t.Errorf("start %v", got)
		}
	}
}
