package dag_test

import (
	"sort"

	"outlaw/api"
	"outlaw/event"
)

// The second way: who is before whom is a table of all pairs, and the order is
// found by looking through all events for each place.

// slowDedup sorts the bytes of all valid events and reads the first of each ID.
func slowDedup(l []api.Event) []api.Event {
	bytes := map[string][]string{}
	var ids []string
	for _, e := range l {
		if b, err := event.Bytes(e); err == api.OK {
			if bytes[e.ID] == nil {
				ids = append(ids, e.ID)
			}
			bytes[e.ID] = append(bytes[e.ID], b)
		}
	}
	sort.Strings(ids)
	var events []api.Event
	for _, id := range ids {
		sort.Strings(bytes[id])
		e, _ := event.Read(bytes[id][0])
		events = append(events, e)
	}
	return events
}

// slowGraph is what the second way knows of a list.
type slowGraph struct {
	events []api.Event
	before map[string]map[string]bool // who is before an event, also what is missing
	there  map[string]bool
}

func newSlowGraph(l []api.Event) *slowGraph {
	g := &slowGraph{slowDedup(l), map[string]map[string]bool{}, map[string]bool{}}
	for _, e := range g.events {
		g.there[e.ID] = true
		g.before[e.ID] = map[string]bool{}
		for _, id := range e.Prev {
			g.before[e.ID][id] = true
		}
	}
	for _, middle := range g.events {
		for _, e := range g.events {
			if g.before[e.ID][middle.ID] {
				for id := range g.before[middle.ID] {
					g.before[e.ID][id] = true
				}
			}
		}
	}
	return g
}

// hasPlace reports whether all before an event is there, and none of it is
// before itself, nor the event.
func (g *slowGraph) hasPlace(e api.Event) bool {
	is := !g.before[e.ID][e.ID]
	for id := range g.before[e.ID] {
		is = is && g.there[id] && !g.before[id][id]
	}
	return is
}

func (g *slowGraph) placed() []api.Event {
	var order []api.Event
	done := map[string]bool{}
	for range g.events {
		var next *api.Event
		for i := range g.events {
			e := &g.events[i]
			ready := g.hasPlace(*e) && !done[e.ID]
			for _, id := range e.Prev {
				ready = ready && done[id]
			}
			// The events ascend by ID, so that of equal times the first remains.
			if ready && (next == nil || e.TS < next.TS) {
				next = e
			}
		}
		if next != nil {
			done[next.ID] = true
			order = append(order, *next)
		}
	}
	return order
}

func (g *slowGraph) held() []string {
	var ids []string
	for _, e := range g.events {
		if !g.hasPlace(e) {
			ids = append(ids, e.ID)
		}
	}
	return ids
}

func (g *slowGraph) missing() []string {
	ids := map[string]bool{}
	for _, e := range g.events {
		for id := range g.before[e.ID] {
			ids[id] = true
		}
	}
	return sorted(ids, func(id string) bool { return !g.there[id] })
}

// heads asks of each event whether any other one that has a place names it.
func (g *slowGraph) heads() []string {
	var ids []string
	for _, e := range g.events {
		is := g.hasPlace(e)
		for _, other := range g.events {
			for _, id := range other.Prev {
				is = is && !(id == e.ID && g.hasPlace(other))
			}
		}
		if is {
			ids = append(ids, e.ID)
		}
	}
	return ids
}

func (g *slowGraph) ahead(id string) []string {
	return sorted(g.before[id], func(id string) bool { return g.there[id] })
}

func sorted(ids map[string]bool, keep func(id string) bool) []string {
	var l []string
	for id := range ids {
		if keep(id) {
			l = append(l, id)
		}
	}
	sort.Strings(l)
	return l
}
