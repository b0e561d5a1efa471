package dag

import (
	"container/heap"

	"outlaw/api"
)

// place returns those of the events of a list that have a place, in the order;
// they share memory with the events. What waits for itself, or for what is not
// there, is never counted down to nothing, so it gets no place.
func place(events []api.Event) []api.Event {
	waiting := map[string][]*api.Event{} // who waits for the event with that ID
	left := map[string]int{}             // for how many an event still waits
	var next soonest
	for i := range events {
		e := &events[i]
		left[e.ID] = len(e.Prev)
		for _, id := range e.Prev {
			waiting[id] = append(waiting[id], e)
		}
		if len(e.Prev) == 0 {
			heap.Push(&next, e)
		}
	}
	var placed []api.Event
	for next.Len() > 0 {
		e := heap.Pop(&next).(*api.Event)
		placed = append(placed, *e)
		for _, w := range waiting[e.ID] {
			left[w.ID]--
			if left[w.ID] == 0 {
				heap.Push(&next, w)
			}
		}
	}
	return placed
}

// soonest is a heap of events of which none has the ID of another one.
type soonest []*api.Event

// Len returns how many events there are.
func (s soonest) Len() int { return len(s) }

// Less compares the times, and the IDs where these are equal.
func (s soonest) Less(i, j int) bool {
	if s[i].TS != s[j].TS {
		return s[i].TS < s[j].TS
	}
	return s[i].ID < s[j].ID
}

// Swap swaps two events.
func (s soonest) Swap(i, j int) { s[i], s[j] = s[j], s[i] }

// Push adds x, an event, at the end.
func (s *soonest) Push(x any) { *s = append(*s, x.(*api.Event)) }

// Pop removes the last event.
func (s *soonest) Pop() any {
	last := len(*s) - 1
	e := (*s)[last]
	*s = (*s)[:last]
	return e
}
