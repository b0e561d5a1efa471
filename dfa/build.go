package dfa

import (
	"slices"
	"strings"

	"outlaw/glob"
	"outlaw/nfa"
)

// The bytes of a glob that do not stand for themselves.
const (
	many = '*'
	one  = '?'
)

// builder numbers the sets of states that the automaton of a glob reaches.
type builder struct {
	n       *nfa.Nfa
	norm    string
	sample  string // a byte of each class
	class   [bytes]int
	numbers map[string]int // of the sets, by their positions
	sets    [][]int        // by their numbers
}

// build returns the table of n, if it has at most most states. It ends as soon
// as there are more, for there may be more than anybody can list.
func build(n *nfa.Nfa, most int) (*table, bool) {
	b := newBuilder(n)
	t := &table{class: b.class}
	b.number(n.Start())
	for state := 0; state < len(b.sets); state++ {
		set := b.sets[state]
		t.next = append(t.next, b.row(set))
		t.accept = append(t.accept, n.Accepts(set))
		if len(b.sets) > most {
			return nil, false
		}
	}
	return t, true
}

// newBuilder returns a builder that knows the classes of n, and no set yet.
func newBuilder(n *nfa.Nfa) *builder {
	norm, fold := n.Pattern()
	counted := func(text string) string { return text }
	if fold {
		counted = glob.Fold
	}
	// A * stands for no byte by itself, so it is of class 0 for every glob.
	sample := string(many) + letters(counted(norm))
	b := &builder{n: n, norm: norm, sample: sample, numbers: map[string]int{}}
	for c := range b.class {
		text := counted(string([]byte{byte(c)}))
		b.class[c] = max(strings.Index(sample, text), 0)
	}
	return b
}

// letters returns the bytes of norm that stand for themselves, each once, in
// ascending order.
func letters(norm string) string {
	l := slices.DeleteFunc([]byte(norm), func(c byte) bool { return c == many || c == one })
	slices.Sort(l)
	return string(slices.Compact(l))
}

// row returns the numbers of the sets that l leads to, by class. Only a byte
// that stands at a position of l leads elsewhere than class 0 does, so that
// most classes need no step.
func (b *builder) row(l []int) []int {
	row := make([]int, len(b.sample))
	stands := b.standing(l)
	for class := range row {
		if class > 0 && !stands[class] {
			row[class] = row[0]
			continue
		}
		row[class] = b.number(b.n.Step(l, b.sample[class]))
	}
	return row
}

// standing returns for each class whether a byte of it stands at a position of
// l.
func (b *builder) standing(l []int) []bool {
	stands := make([]bool, len(b.sample))
	for _, position := range l {
		if position < len(b.norm) {
			stands[b.class[b.norm[position]]] = true
		}
	}
	return stands
}

// number returns the number of the set l, which is the next one if l is new.
func (b *builder) number(l []int) int {
	k := key(l)
	number, is := b.numbers[k]
	if !is {
		number = len(b.sets)
		b.numbers[k] = number
		b.sets = append(b.sets, l)
	}
	return number
}

// key returns the positions in l as bytes: a glob has at most 255, so that its
// end is one, too.
func key(l []int) string {
	var b strings.Builder
	for _, position := range l {
		b.WriteByte(byte(position))
	}
	return b.String()
}
