package dfa_test

import (
	"math"
	"math/rand"
	"slices"
	"strings"
	"testing"

	"outlaw/api"
	"outlaw/dfa"
	"outlaw/glob"
)

// made returns what matches p, which is a glob.
func made(t *testing.T, p string, fold bool, most int) *dfa.Auto {
	t.Helper()
	a, e := dfa.New(p, fold, most)
	if e != api.OK || a == nil {
		t.Fatalf("%q, most %d: %v, error %d", p, most, a, e)
	}
	return a
}

// built returns the table of p, which has one.
func built(t *testing.T, p string, fold bool) api.Dfa {
	t.Helper()
	d, is := dfa.Build(p, fold, api.MostStates)
	if !is {
		t.Fatalf("%q has no table", p)
	}
	return d
}

func isZero(d api.Dfa) bool {
	return d.Class == nil && d.Next == nil && d.Accept == nil
}

func equal(a, b api.Dfa) bool {
	if len(a.Next) != len(b.Next) {
		return false
	}
	for i := range a.Next {
		if !slices.Equal(a.Next[i], b.Next[i]) {
			return false
		}
	}
	return slices.Equal(a.Class, b.Class) && slices.Equal(a.Accept, b.Accept)
}

// copyOf returns d with memory of its own.
func copyOf(d api.Dfa) api.Dfa {
	c := api.Dfa{Class: slices.Clone(d.Class), Accept: slices.Clone(d.Accept)}
	for _, row := range d.Next {
		c.Next = append(c.Next, slices.Clone(row))
	}
	return c
}

// formIs checks Build and New of p against the second way, for this most.
func formIs(t *testing.T, p string, fold bool, most int) {
	t.Helper()
	want, isWanted := slowBuild(p, fold, most)
	got, is := dfa.Build(p, fold, most)
	if is != isWanted || !equal(got, want) {
		t.Errorf("%.40q, fold %v, most %d: %v %v %v, want %v %v %v", p, fold, most, is, got.Next, got.Accept, isWanted, want.Next, want.Accept)
	}
	if !is && !isZero(got) {
		t.Errorf("%.40q, fold %v, most %d: no table, but %v", p, fold, most, got)
	}
	if is && dfa.Check(got) != api.OK {
		t.Errorf("%.40q, fold %v, most %d: error %d of its table", p, fold, most, dfa.Check(got))
	}
	a := made(t, p, fold, most)
	if a.Full() == isWanted || a.States() != len(want.Next) {
		t.Errorf("%.40q, fold %v, most %d: full %v, %d states, want %v, %d", p, fold, most, a.Full(), a.States(), !isWanted, len(want.Next))
	}
}

// The numbers that the document gives.
func TestNumbers(t *testing.T) {
	if api.ErrNil != 1 || api.ErrArg != 2 || api.ErrLong != 4 || api.MostGlob != 255 || api.MostStates != 256 {
		t.Error("numbers")
	}
}

// The examples of the chapter.
func TestExamples(t *testing.T) {
	d := built(t, "*", false)
	if !slices.Equal(d.Class, make([]int, 256)) || len(d.Next) != 1 || !slices.Equal(d.Next[0], []int{0}) || !slices.Equal(d.Accept, []bool{true}) {
		t.Error(d)
	}
	d = built(t, "ab", false)
	want := api.Dfa{
		Class:  make([]int, 256),
		Next:   [][]int{{1, 2, 1}, {1, 1, 1}, {1, 1, 3}, {1, 1, 1}},
		Accept: []bool{false, false, false, true},
	}
	want.Class['a'], want.Class['b'] = 1, 2
	if !equal(d, want) {
		t.Error(d)
	}
}

// P9.1: the order of the classes, those of both cases, and of the states.
func TestForms(t *testing.T) {
	for _, x := range []struct {
		p      string
		fold   bool
		class  map[byte]int
		next   [][]int
		accept []bool
	}{
		{"?", false, nil, [][]int{{1}, {2}, {2}}, []bool{false, true, false}},
		{"*?", false, nil, [][]int{{1}, {1}}, []bool{false, true}},
		{"**", true, nil, [][]int{{0}}, []bool{true}},
		{"a", false, map[byte]int{'a': 1}, [][]int{{1, 2}, {1, 1}, {1, 1}}, []bool{false, false, true}},
		{"A", false, map[byte]int{'A': 1}, [][]int{{1, 2}, {1, 1}, {1, 1}}, []bool{false, false, true}},
		{"A", true, map[byte]int{'a': 1, 'A': 1}, [][]int{{1, 2}, {1, 1}, {1, 1}}, []bool{false, false, true}},
		{"*x", false, map[byte]int{'x': 1}, [][]int{{0, 1}, {0, 1}}, []bool{false, true}},
		{"x*", false, map[byte]int{'x': 1}, [][]int{{1, 2}, {1, 1}, {2, 2}}, []bool{false, false, true}},
		{"*ab", false, map[byte]int{'a': 1, 'b': 2}, [][]int{{0, 1, 0}, {0, 1, 2}, {0, 1, 0}}, []bool{false, false, true}},
		{"ba", false, map[byte]int{'a': 1, 'b': 2}, [][]int{{1, 1, 2}, {1, 1, 1}, {1, 3, 1}, {1, 1, 1}}, []bool{false, false, false, true}},
		// As themselves, A comes before _, and _ before a; with Fold A counts as a.
		{"a_A*", false, map[byte]int{'A': 1, '_': 2, 'a': 3}, [][]int{{1, 1, 1, 2}, {1, 1, 1, 1}, {1, 1, 3, 1}, {1, 4, 1, 1}, {4, 4, 4, 4}}, []bool{false, false, false, false, true}},
		{"a_A*", true, map[byte]int{'A': 2, '_': 1, 'a': 2}, [][]int{{1, 1, 2}, {1, 1, 1}, {1, 3, 1}, {1, 1, 4}, {4, 4, 4}}, []bool{false, false, false, false, true}},
		{"\xff\x00\xe1", true, map[byte]int{0: 1, 0xe1: 2, 0xff: 3}, [][]int{{1, 1, 1, 2}, {1, 1, 1, 1}, {1, 3, 1, 1}, {1, 1, 4, 1}, {1, 1, 1, 1}}, []bool{false, false, false, false, true}},
	} {
		want := api.Dfa{Class: make([]int, 256), Next: x.next, Accept: x.accept}
		for c, class := range x.class {
			want.Class[c] = class
		}
		if got, is := dfa.Build(x.p, x.fold, 256); !is || !equal(got, want) {
			t.Errorf("%q, fold %v: %v %v, want %v", x.p, x.fold, is, got, want)
		}
	}
}

// P9.1 and P9.2: all short globs, with every bound about the number of states.
func TestAllForms(t *testing.T) {
	for _, p := range texts(4, "a", "B", "b", "*", "?")[1:] {
		for _, fold := range []bool{false, true} {
			formIs(t, p, fold, 256)
			states := len(built(t, p, fold).Next)
			formIs(t, p, fold, states)
			if states > 1 {
				formIs(t, p, fold, states-1)
			}
		}
	}
}

// P9.1 and P9.2: globs that have as many states as there may be, or nearly.
func TestManyStates(t *testing.T) {
	all := make([]byte, 0, 254) // each byte that stands for itself
	for c := range 256 {
		if c != '*' && c != '?' {
			all = append(all, byte(c))
		}
	}
	for _, x := range []struct {
		p      string
		states int // 0: more than 256
	}{
		{strings.Repeat("a", 254), 256},
		{strings.Repeat("a", 255), 0},
		{strings.Repeat("?", 254), 256},
		{strings.Repeat("?", 255), 0},
		{strings.Repeat("?", 254) + "*", 255},
		{strings.Repeat("a", 254) + "*", 256},
		{"*" + strings.Repeat("a", 254), 255},
		{strings.Repeat("*", 255), 1},
		{strings.Repeat("*a", 127), 128},
		{"*a???????", 256},
		{"*a????????", 0},
		{"*a" + strings.Repeat("?", 253), 0},
		{"*?*a?*??b??", 36},
		{string(all), 256},
		{string(all[:253]) + "*", 255},
		{"*" + string(all), 255},
	} {
		for _, fold := range []bool{false, true} {
			want := x.states
			a := made(t, x.p, fold, 256)
			d, is := dfa.Build(x.p, fold, 256)
			if is != (want > 0) || len(d.Next) != want || a.States() != want || a.Full() != (want == 0) {
				t.Errorf("%.40q, fold %v: %v, %d states, %d, full %v, want %d", x.p, fold, is, len(d.Next), a.States(), a.Full(), want)
			}
			if len(x.p) < 20 {
				formIs(t, x.p, fold, 256)
			}
		}
	}
	formIs(t, string(all), true, 256)
	formIs(t, "*"+string(all), false, 256)
}

// P9.1 and P9.2: what is wrong, in its order.
func TestWrong(t *testing.T) {
	long := strings.Repeat("*", 256) // though its normal form has one state
	for _, x := range []struct {
		p    string
		most int
		want api.Errno
	}{
		{"", 256, api.ErrArg},
		{"", 0, api.ErrArg},
		{long, 256, api.ErrLong},
		{long, 0, api.ErrLong},
		{long, 257, api.ErrLong},
		{"*", 0, api.ErrArg},
		{"*", -1, api.ErrArg},
		{"*", 257, api.ErrArg},
		{"*", math.MinInt, api.ErrArg},
		{"*", math.MaxInt, api.ErrArg},
		{"*", 1, api.OK},
		{"*", 256, api.OK},
	} {
		for _, fold := range []bool{false, true} {
			a, e := dfa.New(x.p, fold, x.most)
			if e != x.want || (a != nil) != (e == api.OK) {
				t.Errorf("%.10q, most %d: %v, error %d, want %d", x.p, x.most, a, e, x.want)
			}
			if d, is := dfa.Build(x.p, fold, x.most); is != (x.want == api.OK) || !is && !isZero(d) {
				t.Errorf("%.10q, most %d: %v %v", x.p, x.most, d, is)
			}
		}
	}
}

// tables returns tables that are valid and that are not, by what is special
// about them.
func tables(t *testing.T) map[string]api.Dfa {
	base := built(t, "ab", false)
	all := map[string]api.Dfa{"base": base, "zero": {}}
	add := func(name string, change func(d *api.Dfa)) {
		d := copyOf(base)
		change(&d)
		all[name] = d
	}
	add("class below 0", func(d *api.Dfa) { d.Class[0] = -1 })
	add("class below all", func(d *api.Dfa) { d.Class[255] = math.MinInt })
	add("last class", func(d *api.Dfa) { d.Class[255] = 2 })
	add("class too great", func(d *api.Dfa) { d.Class[255] = 3 })
	add("class above all", func(d *api.Dfa) { d.Class[0] = math.MaxInt })
	add("255 classes", func(d *api.Dfa) { d.Class = d.Class[:255] })
	add("257 classes", func(d *api.Dfa) { d.Class = append(d.Class, 0) })
	add("no classes", func(d *api.Dfa) { d.Class = nil })
	add("no next", func(d *api.Dfa) { d.Next = nil })
	add("no accept", func(d *api.Dfa) { d.Accept = nil })
	add("no states", func(d *api.Dfa) { d.Next, d.Accept = nil, nil })
	add("fewer next", func(d *api.Dfa) { d.Next = d.Next[:3] })
	add("more next", func(d *api.Dfa) { d.Next = append(d.Next, []int{0, 0, 0}) })
	add("fewer accept", func(d *api.Dfa) { d.Accept = d.Accept[:3] })
	add("more accept", func(d *api.Dfa) { d.Accept = append(d.Accept, true) })
	add("more states", func(d *api.Dfa) {
		d.Next, d.Accept = append(d.Next, []int{4, 4, 4}), append(d.Accept, true)
	})
	add("state of more", func(d *api.Dfa) { d.Next[0][2] = 4 })
	add("state above all", func(d *api.Dfa) { d.Next[3][2] = math.MaxInt })
	add("last state", func(d *api.Dfa) { d.Next[0][2] = 3 })
	add("state below 0", func(d *api.Dfa) { d.Next[3][0] = -1 })
	add("state below all", func(d *api.Dfa) { d.Next[1][1] = math.MinInt })
	add("first row short", func(d *api.Dfa) { d.Next[0] = d.Next[0][:2] })
	add("first row long", func(d *api.Dfa) { d.Next[0] = append(d.Next[0], 0) })
	add("first row empty", func(d *api.Dfa) { d.Next[0] = nil })
	add("last row short", func(d *api.Dfa) { d.Next[3] = d.Next[3][:2] })
	add("last row long", func(d *api.Dfa) { d.Next[3] = append(d.Next[3], 0) })
	add("last row empty", func(d *api.Dfa) { d.Next[3] = []int{} })
	add("all rows long", func(d *api.Dfa) {
		for i := range d.Next {
			d.Next[i] = append(d.Next[i], 3)
		}
	})
	add("all rows empty", func(d *api.Dfa) {
		for i := range d.Next {
			d.Next[i] = nil
		}
	})
	add("all classes 0", func(d *api.Dfa) { clear(d.Class) })
	add("one class", func(d *api.Dfa) {
		clear(d.Class)
		for i := range d.Next {
			d.Next[i] = d.Next[i][:1]
		}
	})
	for _, states := range []int{255, 256, 257} {
		add("states "+strings.Repeat("I", states), func(d *api.Dfa) {
			d.Next, d.Accept = nil, make([]bool, states)
			for range states {
				d.Next = append(d.Next, []int{0, 1, min(states-1, 255)})
			}
			d.Accept[1] = true
		})
	}
	add("1000 classes", func(d *api.Dfa) {
		for i := range d.Next {
			d.Next[i] = append(d.Next[i], make([]int, 997)...)
		}
		d.Class['a'] = 999
	})
	return all
}

// P9.1: valid tables run, others do not.
func TestCheck(t *testing.T) {
	valid := 0
	for name, d := range tables(t) {
		before := copyOf(d)
		want := api.ErrArg
		if slowCheck(d) {
			want, valid = api.OK, valid+1
		}
		if got := dfa.Check(d); got != want {
			t.Errorf("%s: error %d, want %d", name, got, want)
		}
		for _, text := range []string{"", "a", "b", "ab", "ba", "abb", "\x00\xff", "\xffa\xff"} {
			if got := dfa.Run(d, text); got != slowRun(d, text) {
				t.Errorf("%s runs %q: %v, want %v", name, text, got, slowRun(d, text))
			}
		}
		if !equal(d, before) {
			t.Errorf("%s became another", name)
		}
	}
	if valid != 10 {
		t.Errorf("%d tables are valid", valid)
	}
}

// P9.1: any valid table, and what is one number off. The seed is fixed, so
// that each run is the same.
func TestRunAny(t *testing.T) {
	r := rand.New(rand.NewSource(9))
	valid, accepted := 0, 0
	for range 1500 {
		states, classes := 1+r.Intn(6), 1+r.Intn(4)
		d := api.Dfa{Class: make([]int, 256), Accept: make([]bool, states)}
		for c := range d.Class {
			d.Class[c] = r.Intn(classes)
		}
		for i := range d.Accept {
			d.Accept[i] = r.Intn(2) == 0
			row := make([]int, classes)
			for k := range row {
				row[k] = r.Intn(states)
			}
			d.Next = append(d.Next, row)
		}
		switch r.Intn(4) {
		case 0:
			d.Class[r.Intn(256)] = r.Intn(classes+4) - 2
		case 1:
			d.Next[r.Intn(states)][r.Intn(classes)] = r.Intn(states+4) - 2
		}
		if got := dfa.Check(d) == api.OK; got != slowCheck(d) {
			t.Errorf("%v: valid %v", d, got)
		} else if got {
			valid++
		}
		for range 10 {
			b := make([]byte, r.Intn(12))
			for i := range b {
				b[i] = byte(r.Intn(256))
			}
			got := dfa.Run(d, string(b))
			if got != slowRun(d, string(b)) {
				t.Errorf("%v runs %q: %v", d, b, got)
			}
			if got {
				accepted++
			}
		}
	}
	if valid < 900 || valid > 1400 || accepted < 4000 {
		t.Errorf("%d are valid, %d runs accepted: too one-sided", valid, accepted)
	}
}

// P9.1: all fields are compared, and nothing else, also those of tables that
// are not valid.
func TestSame(t *testing.T) {
	all := tables(t)
	for nameA, a := range all {
		for nameB, b := range all {
			if got := dfa.Same(a, copyOf(b)); got != (nameA == nameB) {
				t.Errorf("%s and %s are the same: %v", nameA, nameB, got)
			}
		}
	}
	none := api.Dfa{}
	empty := api.Dfa{Class: []int{}, Next: [][]int{}, Accept: []bool{}}
	if !dfa.Same(none, empty) || !dfa.Same(empty, none) {
		t.Error("nil and empty differ")
	}
	if !dfa.Same(api.Dfa{Next: [][]int{nil}}, api.Dfa{Next: [][]int{{}}}) || dfa.Same(none, api.Dfa{Next: [][]int{nil}}) {
		t.Error("rows that are empty")
	}
	if dfa.Same(api.Dfa{Next: [][]int{{1}, {2}}}, api.Dfa{Next: [][]int{{1, 2}, {}}}) {
		t.Error("rows that are cut elsewhere")
	}
}

// matchIs checks with a table, without one, and the table itself.
func matchIs(t *testing.T, p, text string, fold bool) bool {
	t.Helper()
	want := slowMatch(p, text, fold)
	if got := glob.Match(p, text, fold); got != want {
		t.Errorf("%q, %q, fold %v: %v by glob, want %v", p, text, fold, got, want)
	}
	for _, most := range []int{1, 256} {
		a := made(t, p, fold, most)
		if got := a.Match(text); got != want {
			t.Errorf("%q, %q, fold %v, full %v: %v, want %v", p, text, fold, a.Full(), got, want)
		}
	}
	if d, is := dfa.Build(p, fold, 256); is && dfa.Run(d, text) != want {
		t.Errorf("%q, %q, fold %v: %v by the table, want %v", p, text, fold, !want, want)
	}
	return want
}

// P9.2 and P9.3: all short globs, and all short texts.
func TestAllMatch(t *testing.T) {
	all := texts(4, "a", "b", "A", "*")
	for _, p := range texts(3, "a", "B", "*", "?")[1:] {
		for _, fold := range []bool{false, true} {
			table, without := made(t, p, fold, 256), made(t, p, fold, 1)
			d := built(t, p, fold)
			if table.Full() || without.Full() != (len(d.Next) > 1) {
				t.Errorf("%q: full %v, %v", p, table.Full(), without.Full())
			}
			for _, text := range all {
				want := slowMatch(p, text, fold)
				if table.Match(text) != want || without.Match(text) != want || dfa.Run(d, text) != want {
					t.Errorf("%q, %q, fold %v: %v, %v, %v, want %v", p, text, fold, table.Match(text), without.Match(text), dfa.Run(d, text), want)
				}
			}
		}
	}
}

// P9.2 and P9.3: every byte of a glob against every byte of a text.
func TestEveryByte(t *testing.T) {
	for c := range 256 {
		for _, fold := range []bool{false, true} {
			p := string([]byte{byte(c), '?', byte(c)})
			table, without := made(t, p, fold, 256), made(t, p, fold, 1)
			for d := range 256 {
				text := string([]byte{byte(d), byte(d), byte(d)})
				want := slowMatch(p, text, fold)
				if table.Match(text) != want || without.Match(text) != want {
					t.Errorf("%q, %q, fold %v: %v, %v, want %v", p, text, fold, table.Match(text), without.Match(text), want)
				}
			}
		}
	}
}

// P9.1 to P9.3: longer globs, and texts of their form or nearly so. The seed
// is fixed, so that each run is the same.
func TestLonger(t *testing.T) {
	r := rand.New(rand.NewSource(99))
	some := func(letters string, least, most int) string {
		b := make([]byte, least+r.Intn(most-least+1))
		for i := range b {
			b[i] = letters[r.Intn(len(letters))]
		}
		return string(b)
	}
	accepted, full := 0, 0
	for range 600 {
		p := some("aabAB??**", 1, 24)
		if r.Intn(4) == 0 {
			p = "*a" + some("A???", 4, 12) // these have many states
		}
		fold := r.Intn(2) == 0
		text := ""
		for i := range len(p) {
			switch p[i] {
			case '*':
				text += some("abAB", 0, 3)
			case '?':
				text += some("abAB*?", 1, 1)
			default:
				text += p[i : i+1]
			}
		}
		if !matchIs(t, p, text, fold) {
			t.Errorf("%q does not match %q", p, text)
		}
		if len(text) > 0 {
			at := r.Intn(len(text))
			text = text[:at] + some("abAB", 0, 1) + text[at+1:]
		}
		if matchIs(t, p, text, fold) {
			accepted++
		}
		if made(t, p, fold, 256).Full() {
			full++
		}
		if len(p) <= 12 {
			formIs(t, p, fold, 1+r.Intn(256))
		}
	}
	if accepted < 100 || accepted > 500 || full < 20 {
		t.Errorf("%d of the texts that are nearly of the form match, %d globs are full: too one-sided", accepted, full)
	}
}

// P9.2 and P9.3: the longest globs, and long texts.
func TestMatchLong(t *testing.T) {
	some := strings.Repeat("a", 1<<12)
	for _, p := range []string{
		strings.Repeat("*a", 127), strings.Repeat("a", 254), strings.Repeat("a", 255), strings.Repeat("?", 254), strings.Repeat("?", 255),
		strings.Repeat("?", 254) + "*", "*" + strings.Repeat("a", 253) + "b", "*a" + strings.Repeat("?", 253), strings.Repeat("*", 255),
	} {
		for _, text := range []string{"", some[:126], some[:127], some[:253], some[:254], some[:255], some[:256], some, some + "b"} {
			for _, fold := range []bool{false, true} {
				matchIs(t, p, text, fold)
			}
		}
	}
}

// P9.2, rule 8: what New did not return answers nothing.
func TestNotMade(t *testing.T) {
	table, without := *made(t, "*", false, 256), *made(t, "a*", false, 1)
	for name, a := range map[string]*dfa.Auto{"nil": nil, "zero": {}, "copy of a table": &table, "copy without": &without} {
		if a.Match("") || a.Match("a") || a.Full() || a.States() != 0 {
			t.Errorf("%s: matches %v, %v, full %v, %d states", name, a.Match(""), a.Match("a"), a.Full(), a.States())
		}
	}
}

// spoil writes into all that d may reach, also its spare capacity.
func spoil(d api.Dfa) {
	for _, l := range append(d.Next[:len(d.Next):len(d.Next)], d.Class) {
		l = l[:cap(l)]
		for i := range l {
			l[i] = -7
		}
	}
	l := d.Accept[:cap(d.Accept)]
	for i := range l {
		l[i] = !l[i]
	}
	rows := d.Next[:cap(d.Next)]
	for i := range rows {
		rows[i] = nil
	}
}

// Rule 3: results share no memory, neither with each other nor with objects,
// nor one list of a result with another.
func TestNewMemory(t *testing.T) {
	a := made(t, "*ab?", true, 256)
	first, want := built(t, "*ab?", true), built(t, "*ab?", true)
	for i, row := range first.Next { // one row after the other: the others stay
		for k := range row[:cap(row)] {
			row[:cap(row)][k] = -1
		}
		for j := i + 1; j < len(first.Next); j++ {
			if !slices.Equal(first.Next[j], want.Next[j]) {
				t.Fatalf("row %d shares memory with row %d", j, i)
			}
		}
	}
	if !slices.Equal(first.Class, want.Class) || !slices.Equal(first.Accept, want.Accept) {
		t.Error("rows share memory with classes")
	}
	spoil(first)
	if second := built(t, "*ab?", true); !equal(second, want) {
		t.Errorf("%v became %v", want, second)
	}
	if !a.Match("xABx") || a.Match("xAB") || a.States() != len(want.Next) {
		t.Error("the object became another")
	}
}

// Rule 3: what is passed is not kept.
func TestNothingIsKept(t *testing.T) {
	d := built(t, "ab", false)
	if dfa.Check(d) != api.OK || !dfa.Run(d, "ab") || !dfa.Same(d, copyOf(d)) {
		t.Error("a table that is valid")
	}
	d.Accept[0] = true
	if !dfa.Run(d, "") {
		t.Error("an earlier table is run")
	}
	spoil(d)
	if dfa.Check(d) != api.ErrArg || dfa.Run(d, "ab") || dfa.Run(d, "") {
		t.Error("a table that is no longer valid")
	}
}
