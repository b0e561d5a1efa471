package index_test

import (
	"math"
	"math/rand"
	"slices"
	"strings"
	"testing"
	"unsafe"

	"outlaw/api"
	"outlaw/index"
)

// mosts are numbers of states below, in and above what a table may have.
var mosts = []int{math.MinInt, -1, 0, 1, 2, 3, 9, 255, 256, 257, math.MaxInt}

// some bytes that letters and cases stand next to, and that are no text.
var edges = []string{"@", "A", "Z", "[", "`", "a", "z", "{", "\x00", "\x7f", "\x80", "\xff", "ä", "Ä", "*", "?"}

// put puts a glob that may be put.
func put(t *testing.T, x *index.Index, id int, p string, fold bool) {
	t.Helper()
	if e := x.Put(id, p, fold); e != api.OK {
		t.Fatalf("Put(%d, %q, %v): error %d", id, p, fold, e)
	}
}

// drop drops a glob that is there.
func drop(t *testing.T, x *index.Index, id int) {
	t.Helper()
	if e := x.Drop(id); e != api.OK {
		t.Fatalf("Drop(%d): error %d", id, e)
	}
}

// matchIs checks which numbers match.
func matchIs(t *testing.T, x *index.Index, text string, want ...int) {
	t.Helper()
	if got := x.Match(text); !slices.Equal(got, want) {
		t.Errorf("%.40q is matched by %v, want %v", text, got, want)
	}
}

// same checks all that x answers about its globs against the second way.
func same(t *testing.T, x *index.Index, slow *slowIndex) {
	t.Helper()
	if got, want := x.Globs(), slow.list(); !slices.Equal(got, want) {
		t.Errorf("globs %v, want %v", got, want)
	}
	if got, want := x.Len(), slow.len(); got != want {
		t.Errorf("%d globs, want %d", got, want)
	}
	for id := -2; id < slowNumbers; id++ {
		if got, want := x.Has(id), slow.has(id); got != want {
			t.Errorf("number %d in use: %v, want %v", id, got, want)
		}
	}
}

// full returns an index with the numbers 0 to 199.
func full(t *testing.T) *index.Index {
	t.Helper()
	x := index.New(256)
	for id := range 200 {
		put(t, x, id, "a*"[:1+id%2], false)
	}
	return x
}

// The numbers that the document gives.
func TestNumbers(t *testing.T) {
	if api.ErrNil != 1 || api.ErrArg != 2 || api.ErrLong != 4 || api.ErrTwice != 8 || api.ErrNone != 12 || api.ErrFull != 13 {
		t.Error("errors")
	}
	if api.MostGlob != 255 || api.MostStates != 256 || api.MostGlobs != 200 {
		t.Error("limits")
	}
}

// The example of the chapter.
func TestExample(t *testing.T) {
	x := index.New(256)
	put(t, x, 3, "a*", false)
	put(t, x, 1, "ab", false)
	put(t, x, 2, "b", false)
	matchIs(t, x, "ab", 1, 3)
}

// P10.1: a new index is empty, whatever the tables may have, and each takes
// globs that have many states.
func TestNew(t *testing.T) {
	for _, most := range mosts {
		x := index.New(most)
		if x == nil || x.Len() != 0 || x.Has(0) || len(x.Globs()) != 0 || len(x.Match("")) != 0 || len(x.Match("a")) != 0 || x.Drop(0) != api.ErrNone {
			t.Errorf("most %d: not empty", most)
		}
		for id, p := range []string{"*", "a*", "*a???????", "*a????????", strings.Repeat("?", 255)} {
			put(t, x, id, p, false)
		}
		matchIs(t, x, "a1234567", 0, 1, 2)
		matchIs(t, x, "a12345678", 0, 1, 3)
		matchIs(t, x, strings.Repeat("b", 255), 0, 4)
	}
	if a, b := index.New(1), index.New(1); a.Put(1, "a", false) != api.OK || b.Len() != 0 || b.Has(1) {
		t.Error("two indexes share a glob")
	}
}

// P10.1: what may not be put, in its order, and it changes nothing.
func TestPutWrong(t *testing.T) {
	long := strings.Repeat("a", 256)
	few := index.New(256)
	put(t, few, 5, "a", false)
	put(t, few, 6, "a*", false)
	all := full(t)
	for _, x := range []struct {
		in   *index.Index
		id   int
		p    string
		want api.Errno
	}{
		{few, -1, "a", api.ErrArg},
		{few, math.MinInt, "a", api.ErrArg},
		{few, -1, long, api.ErrArg},
		{few, 5, "b", api.ErrTwice},
		{few, 6, "b", api.ErrTwice},
		{few, 5, "", api.ErrTwice},
		{few, 6, long, api.ErrTwice},
		{few, 7, "", api.ErrArg},
		{few, 7, long, api.ErrLong},
		{few, 7, long[1:] + "*", api.ErrLong},
		{few, 7, strings.Repeat("*", 256), api.ErrLong},
		{all, -1, "a", api.ErrArg},
		{all, -1, long, api.ErrArg},
		{all, 0, "a", api.ErrTwice},
		{all, 199, long, api.ErrTwice},
		{all, 200, "", api.ErrArg},
		{all, 200, long, api.ErrLong},
		{all, 200, "b", api.ErrFull},
		{all, 200, "b*", api.ErrFull},
		{all, math.MaxInt, "b", api.ErrFull},
	} {
		for _, fold := range []bool{false, true} {
			before := x.in.Globs()
			if got := x.in.Put(x.id, x.p, fold); got != x.want {
				t.Errorf("Put(%d, %.10q) of %d globs: error %d, want %d", x.id, x.p, len(before), got, x.want)
			}
			if !slices.Equal(x.in.Globs(), before) || x.in.Len() != len(before) || x.in.Has(7) != (x.in == all) || x.in.Has(200) || x.in.Has(-1) {
				t.Errorf("Put(%d, %.10q) changed the index", x.id, x.p)
			}
			if got := x.in.Match("b"); len(got) > 0 && x.in == few {
				t.Errorf("Put(%d, %.10q): %v match", x.id, x.p, got)
			}
		}
	}
	matchIs(t, few, "a", 5, 6)
}

// P10.1: what was dropped makes room, and what was not there can't be dropped.
func TestDrop(t *testing.T) {
	x := full(t)
	for _, id := range []int{-1, math.MinInt, 200, math.MaxInt} {
		if e := x.Drop(id); e != api.ErrNone {
			t.Errorf("Drop(%d): error %d", id, e)
		}
	}
	if x.Len() != 200 {
		t.Error("something was dropped")
	}
	for _, id := range []int{0, 1, 198, 199} {
		drop(t, x, id)
		if e := x.Drop(id); e != api.ErrNone || x.Has(id) || x.Len() != 199 {
			t.Errorf("Drop(%d) again: error %d, %d globs", id, e, x.Len())
		}
		put(t, x, 500+id, "b?", true)
		if e := x.Put(id, "a", false); e != api.ErrFull {
			t.Errorf("Put(%d): error %d", id, e)
		}
	}
	matchIs(t, x, "Bx", 500, 501, 698, 699)
	for _, g := range x.Globs() {
		drop(t, x, g.ID)
	}
	if x.Len() != 0 || len(x.Globs()) != 0 || len(x.Match("a")) != 0 || len(x.Match("Bx")) != 0 {
		t.Error("not all were dropped")
	}
}

// P10.1 and P10.2: any number from 0 on is a number of its own.
func TestAllNumbers(t *testing.T) {
	numbers := []int{math.MaxInt, 0, 1 << 32, 255, 256, 1, math.MaxInt32, math.MaxInt - 1}
	x := index.New(256)
	for i, id := range numbers {
		put(t, x, id, []string{"a", "A", "?", "*"}[i%4], i%4 == 1)
	}
	matchIs(t, x, "a", 0, 1, 255, 256, math.MaxInt32, 1<<32, math.MaxInt-1, math.MaxInt)
	matchIs(t, x, "A", 0, 1, 255, math.MaxInt32, 1<<32, math.MaxInt-1)
	matchIs(t, x, "", 255, math.MaxInt-1)
	for i, g := range x.Globs() {
		if g.ID != slices.Sorted(slices.Values(numbers))[i] || !x.Has(g.ID) {
			t.Error(i, g)
		}
	}
	if x.Has(2) || x.Has(-1) || x.Has(math.MinInt) || x.Len() != 8 {
		t.Error("numbers that nobody put")
	}
}

// P10.2: literals that are the same text, with Fold and without.
func TestLiterals(t *testing.T) {
	x := index.New(256)
	for id, p := range []string{"ab", "aB", "AB", "ab", "AB"} {
		put(t, x, 2*id, p, false)
		put(t, x, 2*id+1, p, true)
	}
	matchIs(t, x, "ab", 0, 1, 3, 5, 6, 7, 9)
	matchIs(t, x, "aB", 1, 2, 3, 5, 7, 9)
	matchIs(t, x, "AB", 1, 3, 4, 5, 7, 8, 9)
	matchIs(t, x, "Ab", 1, 3, 5, 7, 9)
	matchIs(t, x, "abc")
	matchIs(t, x, "a")
	matchIs(t, x, "")
	for _, id := range []int{6, 1, 9} { // in the middle, at the beginning, and at the end
		drop(t, x, id)
	}
	matchIs(t, x, "ab", 0, 3, 5, 7)
	matchIs(t, x, "AB", 3, 4, 5, 7, 8)
	put(t, x, 6, "ba", false)
	matchIs(t, x, "ab", 0, 3, 5, 7)
	matchIs(t, x, "ba", 6)
}

// P10.2: every byte as a literal, and every byte as a text.
func TestEveryByte(t *testing.T) {
	for _, fold := range []bool{false, true} {
		for _, rest := range []string{"", "*"} { // a literal, and what is none
			for c := range 256 {
				x := index.New(256)
				p := string([]byte{byte(c)}) + rest
				put(t, x, 1, p, fold)
				for d := range 256 {
					text := string([]byte{byte(d)})
					want := slowMatch(p, text, fold)
					if got := x.Match(text); len(got) > 0 != want {
						t.Errorf("%q, %q, fold %v: %v, want %v", p, text, fold, got, want)
					}
				}
			}
		}
	}
}

// P10.2 and P10.3: all pairs of short globs, and all short texts.
func TestAllPairs(t *testing.T) {
	globs := texts(2, "a", "A", "*", "?")[1:]
	all := texts(3, "a", "A", "b")
	for i, p := range globs {
		for k, q := range globs {
			fold, most := i%2 == 0, 1+255*(k%2)
			x, slow := index.New(most), &slowIndex{}
			for id, g := range []string{q, p} {
				isFold := fold == (id == 0)
				put(t, x, 1-id, g, isFold)
				slow.put(1-id, g, isFold)
			}
			for _, text := range all {
				matchIs(t, x, text, slow.match(text)...)
			}
			drop(t, x, k%2)
			slow.drop(k % 2)
			for _, text := range all {
				matchIs(t, x, text, slow.match(text)...)
			}
		}
	}
}

// P10.3: all sequences of a few calls, with every end that they have.
func TestAllSequences(t *testing.T) {
	calls := []struct {
		id   int
		p    string // none: Drop
		fold bool
	}{
		{0, "a", false}, {0, "A", true}, {0, "a*", false},
		{1, "a", false}, {1, "a", true}, {1, "?A", true},
		{0, "", false}, {1, "", false}, {-1, "a", false},
	}
	texts := texts(2, "a", "A")
	const length = 4
	indices := make([]int, length)
	for {
		x, slow := index.New(2), &slowIndex{}
		for _, i := range indices {
			c := calls[i]
			var got, want api.Errno
			if c.p == "" {
				got, want = x.Drop(c.id), slow.drop(c.id)
			} else {
				got, want = x.Put(c.id, c.p, c.fold), slow.put(c.id, c.p, c.fold)
			}
			if got != want {
				t.Fatalf("calls %v: error %d at %d, want %d", indices, got, i, want)
			}
		}
		if !slices.Equal(x.Globs(), slow.list()) || x.Len() != slow.len() || x.Has(0) != slow.has(0) || x.Has(1) != slow.has(1) {
			t.Fatalf("calls %v: %v, want %v", indices, x.Globs(), slow.list())
		}
		for _, text := range texts {
			if got, want := x.Match(text), slow.match(text); !slices.Equal(got, want) {
				t.Fatalf("calls %v: %q is matched by %v, want %v", indices, text, got, want)
			}
		}
		at := 0
		for ; at < length; at++ {
			if indices[at]++; indices[at] < len(calls) {
				break
			}
			indices[at] = 0
		}
		if at == length {
			return
		}
	}
}

// P10.1 to P10.3: long sequences of calls, with tables of every size at once.
// The seed is fixed, so that each run is the same.
func TestLonger(t *testing.T) {
	r := rand.New(rand.NewSource(10))
	some := func(most int, pieces ...string) string {
		var b strings.Builder
		for range r.Intn(most + 1) {
			b.WriteString(pieces[r.Intn(len(pieces))])
		}
		return b.String()
	}
	isFull, found, nothing := 0, 0, 0
	for range 6 {
		var all []*index.Index
		for _, most := range []int{1, 4, 256} {
			all = append(all, index.New(most))
		}
		slow := &slowIndex{}
		dropped := 3 + r.Intn(18) // one call of so many is a Drop
		for range 800 {
			id, p, fold := r.Intn(slowNumbers+2)-2, "a"+some(3, "a", "b", "A", "B", "?"), r.Intn(2) == 0
			if r.Intn(4) == 0 {
				p = some(5, "a", "b", "A", "*", "?")
			}
			if r.Intn(4) == 0 {
				p = some(4, edges...)
			}
			var want api.Errno
			isDrop := r.Intn(dropped) == 0
			if isDrop {
				want = slow.drop(id)
			} else {
				want = slow.put(id, p, fold)
			}
			if want == api.ErrFull {
				isFull++
			}
			for _, x := range all {
				got := api.OK
				if isDrop {
					got = x.Drop(id)
				} else {
					got = x.Put(id, p, fold)
				}
				if got != want {
					t.Fatalf("%d, %q, fold %v, drop %v: error %d, want %d", id, p, fold, isDrop, got, want)
				}
			}
			text := some(5, "a", "b", "A", "B")
			if r.Intn(4) == 0 {
				text = some(3, edges...)
			}
			l := slow.match(text)
			if len(l) == 0 {
				nothing++
			} else {
				found++
			}
			for _, x := range all {
				matchIs(t, x, text, l...)
			}
		}
		for _, x := range all {
			same(t, x, slow)
		}
	}
	if isFull < 20 || found < 200 || nothing < 200 {
		t.Errorf("%d full, %d matched, %d not: too one-sided", isFull, found, nothing)
	}
}

// P10.2 and P10.3: the longest globs, many of them, and long texts.
func TestLong(t *testing.T) {
	some := strings.Repeat("aB", 1<<12)
	for _, most := range []int{1, 256} {
		x, slow := index.New(most), &slowIndex{}
		id := 0
		for _, p := range []string{
			some[:254], some[:255], some[:253] + "*", some[:254] + "*", "*" + some[1:255], strings.Repeat("?", 255), strings.Repeat("*", 255), strings.Repeat("*a", 127), "*a" + strings.Repeat("?", 253),
		} {
			for _, fold := range []bool{false, true} {
				for _, q := range []string{p, strings.ToLower(p)} {
					put(t, x, id, q, fold)
					slow.put(id, q, fold)
					id++
				}
			}
		}
		same(t, x, slow)
		for _, text := range []string{some[:253], some[:254], some[:255], some[:256], some, some + "a", strings.ToLower(some[:254]), strings.ToLower(some[:255]), strings.ToUpper(some[:255])} {
			matchIs(t, x, text, slow.match(text)...)
		}
	}
}

// P10.1, rule 8: what New did not return holds nothing.
func TestNotMade(t *testing.T) {
	x := index.New(256)
	put(t, x, 1, "a", false)
	put(t, x, 2, "*", false)
	copied := *x
	for name, y := range map[string]*index.Index{"nil": nil, "zero": {}, "copy": &copied} {
		if y.Put(3, "a", false) != api.ErrNil || y.Put(-1, "", false) != api.ErrNil || y.Put(1, "a", false) != api.ErrNil {
			t.Errorf("%s: Put", name)
		}
		if y.Drop(1) != api.ErrNil || y.Drop(-1) != api.ErrNil || y.Has(1) || y.Has(3) || y.Len() != 0 || y.Match("a") != nil || y.Globs() != nil {
			t.Errorf("%s: %v %d %v %v", name, y.Has(1), y.Len(), y.Match("a"), y.Globs())
		}
	}
	if x.Len() != 2 || x.Has(3) {
		t.Error("the index became another")
	}
	matchIs(t, x, "a", 1, 2)
}

// Rule 3: results share no memory, neither with each other nor with the index
// nor with what was passed.
func TestNewMemory(t *testing.T) {
	x := index.New(256)
	passed := map[int]string{1: strings.Clone("ab"), 2: strings.Clone("a*"), 3: strings.Clone("AB")}
	for id, p := range passed {
		put(t, x, id, p, id == 3)
	}
	first, second := x.Globs(), x.Globs()
	for i, g := range first {
		if unsafe.StringData(g.Pattern) == unsafe.StringData(passed[g.ID]) || unsafe.StringData(g.Pattern) == unsafe.StringData(second[i].Pattern) {
			t.Errorf("the text of %d is shared", g.ID)
		}
	}
	for i := range first[:cap(first)] {
		first[:cap(first)][i] = api.Glob{ID: -7}
	}
	l := x.Match("ab")
	for i := range l[:cap(l)] {
		l[:cap(l)][i] = -7
	}
	want := []api.Glob{{ID: 1, Pattern: "ab"}, {ID: 2, Pattern: "a*"}, {ID: 3, Pattern: "AB", Fold: true}}
	if !slices.Equal(second, want) || !slices.Equal(x.Globs(), want) {
		t.Errorf("%v and %v, want %v", second, x.Globs(), want)
	}
	matchIs(t, x, "ab", 1, 2, 3)
}

// Rule 3: what is passed is not kept. The bytes of a text may be written over
// later where it is made of a list of bytes.
func TestNothingIsKept(t *testing.T) {
	x := index.New(256)
	for id, p := range []string{"ab", "AB", "a?", "*"} {
		b := []byte(p)
		put(t, x, id, unsafe.String(unsafe.SliceData(b), len(b)), id == 1)
		clear(b)
	}
	text := []byte("ab")
	matchIs(t, x, unsafe.String(unsafe.SliceData(text), len(text)), 0, 1, 2, 3)
	clear(text)
	matchIs(t, x, "ab", 0, 1, 2, 3)
	drop(t, x, 0)
	drop(t, x, 1)
	matchIs(t, x, "ab", 2, 3)
	want := []api.Glob{{ID: 2, Pattern: "a?"}, {ID: 3, Pattern: "*"}}
	if !slices.Equal(x.Globs(), want) {
		t.Errorf("%v, want %v", x.Globs(), want)
	}
}
