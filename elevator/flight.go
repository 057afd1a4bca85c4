package elevator

import (
	"slices"

	"elevator/api"
)

// flight is the requests of a command under way: at least one, all of one kind, as compare orders them. It holds them itself, since one that was given up and told is in the queue's map no more, and still stands in the way.
type flight []*entry

// command is what the disk is told. No page between the first and the last is without a request.
func (f flight) command() api.Command {
	first, last := f[0], f[len(f)-1]
	command := api.Command{Write: first.write, Page: first.page, Count: last.page - first.page + 1}
	for _, e := range f {
		command.Requests = append(command.Requests, e.number)
	}
	return command
}

// next finds the requests of the next command (P7): none, if there is no such command.
func (q *Queue) next() flight {
	if len(q.flights) >= q.depth {
		return nil
	}
	ready := q.ready()
	if len(ready) == 0 {
		return nil
	}
	// If no page from head on has a ready request, the index is -1: the least page of all is the first.
	start := max(0, slices.IndexFunc(ready, func(e *entry) bool { return e.page >= q.head }))
	return together(ready[start:])
}

// ready finds the requests that may go now, in their order.
func (q *Queue) ready() []*entry {
	held := q.held()
	var ready []*entry
search:
	for i, e := range held {
		if e.state != waiting || e.due > q.now {
			continue
		}
		for _, earlier := range held[:i] {
			if earlier.clashes(e) {
				continue search
			}
		}
		ready = append(ready, e)
	}
	return ready
}

// held is what waits and what is under way, in order: whatever may be in the way of a request stands ahead of it.
func (q *Queue) held() []*entry {
	held := slices.Concat(q.flights...)
	for _, e := range q.requests {
		if e.state == waiting {
			held = append(held, e)
		}
	}
	slices.SortFunc(held, (*entry).compare)
	return held
}

// together takes the first of the ready requests, and those behind it that go with it.
func together(ready []*entry) flight {
	first := ready[0]
	if first.alone() {
		return flight{first}
	}
	var chosen flight
	page, end := first.page, min(first.page+api.MaxVector, api.Pages)
	for _, e := range ready {
		if e.page > page+1 || e.page >= end {
			break
		}
		if e.write == first.write && !e.alone() {
			chosen = append(chosen, e)
			page = e.page
		}
	}
	return chosen
}

// land takes the command at place k from those under way.
func (q *Queue) land(k int) flight {
	landed := q.flights[k]
	q.flights = slices.Delete(q.flights, k, k+1)
	return landed
}

// finish ends the try of each request of a command that has landed (P9).
func (q *Queue) finish(command flight, fault bool) {
	for _, e := range command {
		e.tries++
		if fault {
			e.miss(q.now)
		} else {
			e.succeed(&q.disk[e.page])
		}
	}
}

// writesUnderWay stand as their commands were sent, and page by page: no page has two.
func (q *Queue) writesUnderWay() []*entry {
	all := slices.Concat(q.flights...)
	return slices.DeleteFunc(all, func(e *entry) bool { return !e.write })
}
