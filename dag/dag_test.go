package dag_test

import (
	"fmt"
	"math"
	"math/rand"
	"runtime/debug"
	"slices"
	"strconv"
	"strings"
	"testing"
	"unsafe"

	"outlaw/api"
	"outlaw/canon"
	"outlaw/dag"
	"outlaw/event"
	"outlaw/eventtest"
	"outlaw/jsontest"
)

// made returns the valid event that a text tells: its ID without the $, its
// time, and its Prev.
func made(s string) api.Event {
	words := strings.Fields(s)
	ts, err := strconv.ParseInt(words[1], 10, 64)
	if err != nil {
		panic(err)
	}
	e := api.Event{ID: "$" + words[0], Room: "!r:s", Sender: "@u:s", Type: "t", TS: ts, Body: jsontest.Object("")}
	for _, id := range words[2:] {
		e.Prev = append(e.Prev, "$"+id)
	}
	return e
}

// all returns the events that a text tells, separated by semicolons.
func all(s string) []api.Event {
	var l []api.Event
	for part := range strings.SplitSeq(s, ";") {
		if strings.TrimSpace(part) != "" {
			l = append(l, made(part))
		}
	}
	return l
}

// What is done with the events of the tests, by short names.
var (
	but  = eventtest.But
	show = eventtest.Show
)

func showAll(l []api.Event) string {
	var lines []string
	for _, e := range l {
		lines = append(lines, show(e))
	}
	return strings.Join(lines, "\n")
}

// short writes IDs without their $.
func short(ids []string) string {
	return strings.ReplaceAll(strings.Join(ids, " "), "$", "")
}

// what is all that is told of a list.
type what struct{ order, held, missing, heads string }

// of asks all calls that take nothing but a list.
func of(l []api.Event) what {
	return what{short(dag.Order(l)), short(dag.Held(l)), short(dag.Missing(l)), short(dag.Heads(l))}
}

// tells checks what is told of the events of a text, also beside the second way.
func tells(t *testing.T, s string, want what) {
	t.Helper()
	if got := of(all(s)); got != want {
		t.Errorf("%s:\n%+v, want\n%+v", s, got, want)
	}
	likeSlow(t, all(s))
}

// likeSlow checks all calls for a list against the second way.
func likeSlow(t *testing.T, l []api.Event) {
	t.Helper()
	g := newSlowGraph(l)
	if got, want := showAll(dag.Dedup(l)), showAll(g.events); got != want {
		t.Fatalf("%s\nhas the events\n%s, want\n%s", showAll(l), got, want)
	}
	placed := dag.Placed(l)
	if got, want := showAll(placed), showAll(g.placed()); got != want {
		t.Fatalf("%s\nhas the order\n%s, want\n%s", showAll(l), got, want)
	}
	var order []string
	for _, e := range placed {
		order = append(order, e.ID)
	}
	same(t, l, "Order", dag.Order(l), order)
	same(t, l, "Held", dag.Held(l), g.held())
	same(t, l, "Missing", dag.Missing(l), g.missing())
	same(t, l, "Heads", dag.Heads(l), g.heads())
	for _, e := range append(g.events, api.Event{ID: "$x"}, api.Event{}) {
		same(t, l, "Ahead "+e.ID, dag.Ahead(l, e.ID), g.ahead(e.ID))
	}
}

func same(t *testing.T, l []api.Event, call string, got, want []string) {
	t.Helper()
	if !slices.Equal(got, want) {
		t.Fatalf("%s\n%s: %q, want %q", showAll(l), call, got, want)
	}
}

// The example of the chapter.
func TestExample(t *testing.T) {
	tells(t, "b 1 a; a 5; c 2 a; d 0 x", what{"a b c", "d", "x", "b c"})
}

// P12.1 and P12.2: what a few events tell.
func TestFew(t *testing.T) {
	for s, want := range map[string]what{
		"":                                  {},
		"a 0":                               {"a", "", "", "a"},
		"a 0 x":                             {"", "a", "x", ""},
		"a 0 b; b 0 a":                      {"", "a b", "", ""},
		"a 0 b; b 0 c; c 0 a; d 1 a; e 1":   {"e", "a b c d", "", "e"},
		"a 0 b; b 0 a x; c 0":               {"c", "a b", "x", "c"},
		"a 3; b 2; c 1":                     {"c b a", "", "", "a b c"},
		"a 1; B 1; 9 1; - 1; _ 1; ~ 1; / 1": {"- / 9 B _ a ~", "", "", "- / 9 B _ a ~"},
		"b 1; a 1; aa 1; ab 0 b":            {"a aa b ab", "", "", "a aa ab"},
		"a 0; b 9 a; c 1 b; d 5 a":          {"a d b c", "", "", "c d"},
		"a 9; b 0 a; c 8; d 1 c":            {"c d a b", "", "", "b d"},
		"a 0; b 0 a x; c 0 b; d 0 a c":      {"a", "b c d", "x", "a"},
		"a 0 y x; b 0 x z; c 0":             {"c", "a b", "x y z", "c"},
		"a 0; b 1 a; c 0 a b; d 0 c b a":    {"a b c d", "", "", "d"},
		"h 0 a b c d e f g i; a 1; b 1; c 1; d 1; e 1; f 1; g 1; i 1": {"a b c d e f g i h", "", "", "h"},
		"a 10; b 9; c 100": {"b a c", "", "", "a b c"},
		"a 9007199254740991; b 0 a; c 9007199254740990; d 4294967296":    {"d c a b", "", "", "b c d"},
		"a 0; b 0; c 0; d 0; e 0 a d; f 0 b c; g 0 e f; h 0 g; i 0 g":    {"a b c d e f g h i", "", "", "h i"},
		"z 0; y 1 z; x 2 y; w 3 x; v 4 w q; u 5 v":                       {"z y x w", "u v", "q", "w"},
		"a 7; b 3 a; c 2 a; d 1 a; e 6; f 0 e; g 9 b c d f; h 0 g; i 99": {"e f a d c b g h i", "", "", "h i"},
	} {
		tells(t, s, want)
	}
}

// P12.2: what is before an event, whether it has a place or not.
func TestAhead(t *testing.T) {
	for _, x := range []struct{ events, id, want string }{
		{"a 0; b 0 a; c 0 b; d 0 a", "c", "a b"},
		{"a 0; b 0 a; c 0 b; d 0 a", "a", ""},
		{"a 0; b 0 a; c 0 b; d 0 a", "d", "a"},
		{"a 0; b 0 a; c 0 b; d 0 a", "e", ""},
		{"d 0 c b; c 0 a; b 0 a; a 0", "d", "a b c"},
		{"a 0; b 0 a x; c 0 b y", "c", "a b"},
		{"a 0; b 0 a x; c 0 b y", "x", ""},
		{"a 0 b; b 0 a", "a", "a b"},
		{"a 0 b; b 0 a", "b", "a b"},
		{"a 0 b; b 0 c; c 0 b", "a", "b c"},
		{"a 0 b; b 0 c; c 0 b", "b", "b c"},
		{"a 0 b; b 0 c; c 0 b d; d 0; e 0 a", "e", "a b c d"},
		{"a 0 b; b 0 c; c 0 a; d 0 a; e 0 d", "d", "a b c"},
		{"", "a", ""},
		{"a 0", "", ""},
		{"a 0", "\xff", ""},
	} {
		if got := short(dag.Ahead(all(x.events), "$"+x.id)); got != x.want {
			t.Errorf("%s: before %s is %s, want %s", x.events, x.id, got, x.want)
		}
	}
	for _, id := range []string{"", "a", "$", "!a:s", "\x00"} {
		if got := dag.Ahead(all("a 0 b; b 0"), id); len(got) != 0 {
			t.Errorf("before %q is %q", id, got)
		}
	}
}

// P12.1: no order, and nobody who is waited for, may depend on anything but
// time, ID and Prev.
func TestOtherFields(t *testing.T) {
	l := all("a 5; b 1 a; c 2 a; d 0 x")
	l[0].Room, l[1].Room, l[2].Sender, l[3].Sender = "!z:s", "!a:s", "@a:s", "@z:s"
	l[0].Type, l[0].State, l[1].State, l[1].Key = "m.room.create", true, true, "k"
	l[2].Type, l[2].Redacts = "m.room.redaction", "$b"
	l[3].Body = jsontest.Object("a", jsontest.Null())
	if got, want := of(l), (what{"a b c", "d", "x", "b c"}); got != want {
		t.Errorf("%+v", got)
	}
	likeSlow(t, l)
}

// P12.1: what is not valid is not among the events, so that it may be missing.
func TestNotValid(t *testing.T) {
	for i, change := range []func(e *api.Event){
		func(e *api.Event) { e.Room = "r" },
		func(e *api.Event) { e.Sender = "" },
		func(e *api.Event) { e.Type = "" },
		func(e *api.Event) { e.Type = strings.Repeat("t", 129) },
		func(e *api.Event) { e.Type = "\xff" },
		func(e *api.Event) { e.Type = "m.room.redaction" },
		func(e *api.Event) { e.Key = "k" },
		func(e *api.Event) { e.State, e.Key = true, "\xff" },
		func(e *api.Event) { e.TS = -1 },
		func(e *api.Event) { e.TS = math.MinInt64 },
		func(e *api.Event) { e.TS = 1 << 53 },
		func(e *api.Event) { e.Prev = []string{"$b"} },
		func(e *api.Event) { e.Prev = []string{"$a", "$a"} },
		func(e *api.Event) { e.Prev = []string{""} },
		func(e *api.Event) { e.Prev = strings.Fields("$1 $2 $3 $4 $5 $6 $7 $8 $9") },
		func(e *api.Event) { e.Redacts = "$a" },
		func(e *api.Event) { e.Body = api.Json{} },
		func(e *api.Event) { e.Body = jsontest.List() },
		func(e *api.Event) { e.Body = jsontest.Object("a a", jsontest.Null(), jsontest.Null()) },
		func(e *api.Event) { e.Body = jsontest.Object("a", jsontest.NestedLists(7)) },
		func(e *api.Event) { e.Body = jsontest.Object("a", jsontest.Text(strings.Repeat("a", 4096))) },
	} {
		l := all("a 0; b 0 a; c 0 b; d 0 a")
		change(&l[1])
		if got, want := of(l), (what{"a d", "c", "b", "d"}); got != want {
			t.Errorf("%d: %+v", i, got)
		}
		if got := dag.Ahead(l, "$b"); len(got) != 0 {
			t.Errorf("%d: before it is %q", i, got)
		}
		if got := short(dag.Ahead(l, "$c")); got != "" {
			t.Errorf("%d: before the next is %s", i, got)
		}
		likeSlow(t, l)
		// A valid one of the same ID counts, before it or behind.
		for _, both := range [][]api.Event{append(l, made("b 0 a")), append([]api.Event{made("b 0 a")}, l...)} {
			if got, want := of(both), (what{"a b c d", "", "", "c d"}); got != want {
				t.Errorf("%d, and a valid one: %+v", i, got)
			}
		}
	}
	for _, id := range []string{"", "b", "$", "$b:s", "$\xff", "$" + strings.Repeat("b", 65)} {
		l := all("a 0; c 0 a")
		l = append(l, but(made("b 0"), func(e *api.Event) { e.ID = id }))
		if got, want := of(l), (what{"a c", "", "", "c"}); got != want {
			t.Errorf("%q: %+v", id, got)
		}
		if got := dag.Ahead(l, id); len(got) != 0 || len(dag.Dedup(l)) != 2 {
			t.Errorf("%q: %q", id, got)
		}
	}
	if got := of([]api.Event{{}, {}}); got != (what{}) || len(dag.Dedup([]api.Event{{}})) != 0 || len(dag.Placed([]api.Event{{}})) != 0 {
		t.Errorf("%+v", got)
	}
}

// P12.1: of several events with one ID, the one with the smallest bytes is the
// only one, with all that it says.
func TestSmallest(t *testing.T) {
	body := func(keys string, v ...api.Json) func(e *api.Event) {
		return func(e *api.Event) { e.Body = jsontest.Object(keys, v...) }
	}
	for _, x := range []struct {
		small, great api.Event
	}{
		{made("a 10"), made("a 9")},
		{made("a 1"), made("a 2")},
		{made("a 5 b"), made("a 5 c")},
		{made("a 5 b c"), made("a 5 c b")},
		{made("a 5 b c"), made("a 5 b")},
		{made("a 5 b"), made("a 5")},
		{but(made("a 9 x"), body("a", jsontest.Null())), made("a 0")},
		{but(made("a 9 x"), body("a", jsontest.Null())), but(made("a 0"), body("b", jsontest.Null()))},
		{but(made("a 9"), body("c b a", jsontest.List(), jsontest.List(), jsontest.List())), but(made("a 0 x"), body("b c", jsontest.List(), jsontest.List()))},
		{but(made("a 9"), body("z", jsontest.Number(10))), but(made("a 0"), body("z", jsontest.Number(9)))},
		{but(made("a 0"), func(e *api.Event) { e.Room = "!R:s" }), made("a 0")},
		{but(made("a 0"), func(e *api.Event) { e.Sender = "@a:s" }), made("a 0")},
		{but(made("a 0"), func(e *api.Event) { e.State = true }), made("a 0")},
	} {
		if event.Compare(x.small, x.great) != -1 {
			t.Fatalf("%s is not smaller than %s", show(x.small), show(x.great))
		}
		others := all("b 3; c 4 a")
		alone := append(slices.Clone(others), x.small)
		for _, l := range [][]api.Event{
			{x.small, x.great, others[0], others[1]},
			{x.great, others[0], others[1], x.small},
			{x.great, x.small, others[1], x.great, others[0], x.small, x.great},
		} {
			if got, want := showAll(dag.Dedup(l)), showAll(dag.Dedup(alone)); got != want {
				t.Errorf("%s\nhas the events\n%s, want\n%s", showAll(l), got, want)
			}
			if got, want := of(l), of(alone); got != want {
				t.Errorf("%s\n%+v, want\n%+v", showAll(l), got, want)
			}
			likeSlow(t, l)
		}
	}
}

// P12.1: bodies have their canonical form, also in what has a place.
func TestCanonical(t *testing.T) {
	inner := jsontest.Object("d c", jsontest.Text("é"), jsontest.List())
	e := but(made("a 0"), func(e *api.Event) { e.Body = jsontest.Object("b B a", jsontest.Null(), jsontest.List(inner), inner) })
	f := but(e, func(e *api.Event) { e.Body = canon.Canon(e.Body) })
	if jsontest.Show(e.Body) == jsontest.Show(f.Body) {
		t.Fatal("it is canonical")
	}
	want := show(f)
	for _, l := range [][]api.Event{{e}, {f}, {e, f}, {f, e}} {
		if got := showAll(dag.Dedup(l)); got != want {
			t.Errorf("Dedup: %s, want %s", got, want)
		}
		if got := showAll(dag.Placed(l)); got != want {
			t.Errorf("Placed: %s, want %s", got, want)
		}
	}
}

// P12.1 and P12.2: all graphs of three events, with one that is missing, and
// all of their times.
func TestAllOfThree(t *testing.T) {
	ids := []string{"a", "b", "c"}
	prevs := map[string][]string{}
	for i, id := range ids {
		prevs[id] = subsets(slices.Concat(ids[:i], ids[i+1:], []string{"x"}))
	}
	for _, a := range prevs["a"] {
		for _, b := range prevs["b"] {
			for _, c := range prevs["c"] {
				for _, times := range []string{"000", "012", "021", "102", "120", "201", "210", "001", "100"} {
					likeSlow(t, all(fmt.Sprintf("a %c%s; b %c%s; c %c%s", times[0], a, times[1], b, times[2], c)))
				}
			}
		}
	}
}

// P12.1 and P12.2: all graphs of four events.
func TestAllOfFour(t *testing.T) {
	a, b, c, d := subsets([]string{"b", "c", "d"}), subsets([]string{"a", "c", "d"}), subsets([]string{"a", "b", "d"}), subsets([]string{"a", "b", "c"})
	for i := range 1 << 12 {
		likeSlow(t, all(fmt.Sprintf("d 2%s; c 1%s; b 1%s; a 3%s", d[i&7], c[i>>3&7], b[i>>6&7], a[i>>9])))
	}
}

// subsets returns all choices of the words, each word preceded by a blank.
func subsets(words []string) []string {
	l := []string{""}
	for _, w := range words {
		for _, s := range l {
			l = append(l, s+" "+w)
		}
	}
	return l
}

// anyEvents returns events that chance made: mostly they wait for earlier ones,
// at times for any, or for what is missing. IDs occur again, and what waits for
// itself, or twice for one, is not valid.
func anyEvents(r *rand.Rand) []api.Event {
	const ids = "abcdefghijklmnopqrstuvwz"
	n := 2 + r.Intn(len(ids)-1)
	back := []int{1, 2, 50}[r.Intn(3)]
	l := make([]api.Event, 0, n)
	for range n {
		i := r.Intn(n)
		if r.Intn(4) > 0 {
			i = len(l)
		}
		s := fmt.Sprintf("%c %d", ids[i], r.Intn(6))
		for range r.Intn(4) {
			switch {
			case r.Intn(40) == 0:
				s += " x"
			case r.Intn(back) > 0 || i == 0:
				s += fmt.Sprintf(" %c", ids[r.Intn(n)])
			default:
				s += fmt.Sprintf(" %c", ids[r.Intn(i)])
			}
		}
		l = append(l, made(s))
	}
	return l
}

// P12.1 to P12.3: lists that chance made.
func TestRandom(t *testing.T) {
	r := rand.New(rand.NewSource(12))
	placed, held := 0, 0
	for range 700 {
		l := anyEvents(r)
		likeSlow(t, l)
		inOrder(t, l)
		placed += len(dag.Order(l))
		held += len(dag.Held(l))
	}
	if placed < 2000 || held < 2000 {
		t.Errorf("%d placed, %d held", placed, held)
	}
}

// inOrder checks P12.3: each event comes after its Prev, and is placed or held.
func inOrder(t *testing.T, l []api.Event) {
	t.Helper()
	done := map[string]bool{}
	for _, e := range dag.Placed(l) {
		for _, id := range e.Prev {
			if !done[id] {
				t.Fatalf("%s\n%s comes before %s", showAll(l), e.ID, id)
			}
		}
		done[e.ID] = true
	}
	for _, id := range dag.Held(l) {
		if done[id] {
			t.Fatalf("%s\n%s is placed and held", showAll(l), id)
		}
		done[id] = true
	}
	if len(done) != len(dag.Dedup(l)) {
		t.Fatalf("%s\nnot all are placed or held", showAll(l))
	}
}

// P12.3: neither the order of a list matters, nor how often events are in it.
func TestAnyOrder(t *testing.T) {
	r := rand.New(rand.NewSource(123))
	for range 40 {
		l := anyEvents(r)
		want := showAll(dag.Dedup(l)) + showAll(dag.Placed(l))
		tells := of(l)
		ahead := showAhead(l)
		for range 5 {
			again := slices.Clone(l)
			for range r.Intn(2 * len(l)) {
				again = append(again, l[r.Intn(len(l))])
			}
			r.Shuffle(len(again), func(i, j int) { again[i], again[j] = again[j], again[i] })
			if got := showAll(dag.Dedup(again)) + showAll(dag.Placed(again)); got != want {
				t.Fatalf("%s\n%s, want\n%s", showAll(again), got, want)
			}
			if got := of(again); got != tells {
				t.Fatalf("%s\n%+v, want\n%+v", showAll(again), got, tells)
			}
			if got := showAhead(again); got != ahead {
				t.Fatalf("%s\n%s, want\n%s", showAll(again), got, ahead)
			}
		}
	}
}

func showAhead(l []api.Event) string {
	var b strings.Builder
	for _, id := range "abcdefghijklmnopqrstuvwxyz" {
		b.WriteString(short(dag.Ahead(l, "$"+string(id))) + ";")
	}
	return b.String()
}

// roomy returns a copy of l in which every slice has spare capacity, filled.
func roomy(l []api.Event) []api.Event {
	l = append(slices.Clone(l), made("spare 0"), made("more 0 spare"))[:len(l)]
	for i, e := range l {
		l[i] = eventtest.Roomy(e)
	}
	return l
}

// showRoom is showAll with the spare capacity of all slices.
func showRoom(l []api.Event) string {
	var lines []string
	for _, e := range l[:cap(l)] {
		lines = append(lines, eventtest.ShowAll(e))
	}
	return strings.Join(lines, "\n")
}

// rich returns a list with events of every sort, many of them placed.
func rich() []api.Event {
	l := all("e 0 d; d 1 b c; c 3 a; b 3 a; a 9; f 0 x; g 0 h; h 0 g; a 8 x y; i 0 a b c d e f g h")
	for i := range l {
		l[i].Body = jsontest.Object("b a", jsontest.List(jsontest.Text("é")), jsontest.Object("d c", jsontest.Null(), jsontest.Truth(1)))
	}
	l = append(l, api.Event{}, but(made("z 0 a"), func(e *api.Event) { e.TS = -1 }))
	return append(l, l[0], l[3])
}

// Rule 3: a list stays as it is, and its spare capacity too.
func TestLeavesArguments(t *testing.T) {
	l := roomy(rich())
	before := showRoom(l)
	want := of(rich())
	if got := of(l); got != want {
		t.Errorf("%+v, want %+v", got, want)
	}
	dag.Dedup(l)
	dag.Placed(l)
	dag.Ahead(l, "$e")
	if after := showRoom(l); after != before {
		t.Errorf("%s became\n%s", before, after)
	}
}

// Rule 3: events that are returned share no memory, neither with the list nor
// with each other, and nothing of it is in their spare capacity.
func TestOwnMemory(t *testing.T) {
	for name, call := range map[string]func([]api.Event) []api.Event{"Dedup": dag.Dedup, "Placed": dag.Placed} {
		l := roomy(rich())
		before := showRoom(l)
		got := call(l)
		if !eventtest.Apart(slices.Concat(l, got)...) {
			t.Errorf("%s: memory is shared", name)
		}
		if all := showRoom(got); strings.Contains(all, "spare") || strings.Contains(all, "more") {
			t.Errorf("%s: spare capacity is returned:\n%s", name, all)
		}
		clear(got[:cap(got)])
		if after := showRoom(l); after != before {
			t.Errorf("%s: the list became\n%s", name, after)
		}
	}
}

// Rule 3: not even the bytes of IDs are those of the list.
func TestOwnStrings(t *testing.T) {
	l := all("a 0; b 0 a; c 0 x b; d 0 x")
	given := map[*byte]string{}
	for _, e := range l {
		for _, s := range append([]string{e.ID}, e.Prev...) {
			given[unsafe.StringData(s)] = s
		}
	}
	var texts []string
	for _, ids := range [][]string{dag.Order(l), dag.Held(l), dag.Missing(l), dag.Heads(l), dag.Ahead(l, l[2].ID)} {
		texts = append(texts, ids...)
	}
	for _, e := range slices.Concat(dag.Dedup(l), dag.Placed(l)) {
		texts = append(append(texts, e.ID), e.Prev...)
	}
	for _, s := range texts {
		if was := given[unsafe.StringData(s)]; was != "" {
			t.Errorf("%s is shared", was)
		}
	}
}

// Rule 4: a nil list and an empty one are the same, also in events.
func TestNone(t *testing.T) {
	for _, l := range [][]api.Event{nil, {}, make([]api.Event, 0, 3)} {
		if got := of(l); got != (what{}) || len(dag.Dedup(l)) != 0 || len(dag.Placed(l)) != 0 || len(dag.Ahead(l, "")) != 0 {
			t.Errorf("%+v", got)
		}
	}
	e := made("a 0")
	f := but(e, func(e *api.Event) { e.Prev, e.Body.Keys, e.Body.Items = []string{}, []string{}, []api.Json{} })
	if l := dag.Dedup([]api.Event{e, f}); len(l) != 1 || !event.Same(l[0], e) {
		t.Error(showAll(l))
	}
}

// T7: bodies that are deeper than calls can be, or that have no end.
func TestDeepBodies(t *testing.T) {
	defer debug.SetMaxStack(debug.SetMaxStack(1 << 20))
	l := all("a 0; b 0 a; c 0")
	l[0].Body = jsontest.Object("a", jsontest.NestedLists(1<<16))
	endless := api.Json{Kind: api.JsonObject, Keys: []string{"a", "b"}, Items: make([]api.Json, 2)}
	endless.Items[0], endless.Items[1] = endless, endless
	l[2].Body = endless
	if got, want := of(l), (what{"", "b", "a", ""}); got != want {
		t.Errorf("%+v", got)
	}
	if len(dag.Dedup(l)) != 1 || len(dag.Placed(l)) != 0 || len(dag.Ahead(l, "$b")) != 0 {
		t.Error("what is not valid")
	}
}

// T7: long lists, deeper than calls can be: each event after the one before it.
func TestChain(t *testing.T) {
	defer debug.SetMaxStack(debug.SetMaxStack(1 << 20))
	const n = 1 << 14
	var l []api.Event
	id := func(i int) string { return fmt.Sprintf("$%05d", i) }
	for i := range n {
		e := made(fmt.Sprintf("x %d", n-i))
		e.ID = id(i)
		if i > 0 {
			e.Prev = []string{id(i - 1)}
		}
		l = append(l, e)
	}
	slices.Reverse(l)
	order := dag.Order(l)
	if len(order) != n || !slices.IsSorted(order) || len(dag.Held(l)) != 0 || len(dag.Missing(l)) != 0 {
		t.Errorf("%d placed", len(order))
	}
	if heads, ahead := dag.Heads(l), dag.Ahead(l, id(n-1)); len(heads) != 1 || heads[0] != id(n-1) || len(ahead) != n-1 {
		t.Errorf("heads %q, %d ahead", heads, len(ahead))
	}
	l[n-1].Prev = []string{id(n - 1)}
	if ahead := dag.Ahead(l, id(0)); len(dag.Order(l)) != 0 || len(dag.Held(l)) != n || len(ahead) != n || len(dag.Heads(l)) != 0 {
		t.Errorf("on a cycle %d are ahead", len(ahead))
	}
}

// T7: many events that wait for one, by descending times.
func TestStar(t *testing.T) {
	const n = 1 << 14
	l := all("a 0")
	for i := range n {
		e := made(fmt.Sprintf("x %d a", n-i/2))
		e.ID = fmt.Sprintf("$x%05d", i)
		l = append(l, e)
	}
	order := dag.Order(l)
	if len(order) != n+1 || len(dag.Heads(l)) != n {
		t.Fatalf("%d placed", len(order))
	}
	// Two each have the same time, so that the smaller ID comes first.
	for i, id := range order[1:] {
		if want := fmt.Sprintf("$x%05d", n-2-i/2*2+i%2); id != want {
			t.Fatalf("%d is %s, want %s", i, id, want)
		}
	}
}
