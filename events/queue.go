package events

import "slices"

// item is an event, and the item behind it. None is ever changed, so that a parser's copy may share it.
type item struct {
	event Event
	next  *item
}

// queue is the events that were told and not taken: the first ones in their order, behind them the last ones, the latest ahead.
type queue struct {
	first, last *item
}

func (q *queue) put(e Event) {
	q.last = &item{e, q.last}
}

func (q *queue) take() (Event, bool) {
	if q.first == nil {
		q.turn()
	}
	if q.first == nil {
		return Event{}, false
	}
	e := q.first.event
	q.first = q.first.next
	e.Params = apart(e.Params)
	return e, true
}

// turn makes the last events the first ones, when none of those is left.
func (q *queue) turn() {
	for ; q.last != nil; q.last = q.last.next {
		q.first = &item{q.last.event, q.first}
	}
}

// apart is the parameters in memory of their own: a parser's copy may tell the same event.
func apart(l [][]int) [][]int {
	l = slices.Clone(l)
	for i := range l {
		l[i] = slices.Clone(l[i])
	}
	return l
}
