package elevator

import (
	"cmp"

	"elevator/api"
)

// content is a page's bytes: an array, so that no two holders of it share memory.
type content [api.PageSize]byte

// state is how far a request has come.
type state int

const (
	waiting state = iota
	underWay
	done
	failed
	givenUp // whether its command is still under way or not: Poll and Cancel answer the same
)

// entry is a request that is not told yet, or whose command is under way.
type entry struct {
	number int
	page   int
	write  bool
	data   content // what a write brings, or what a read that is done has got
	tries  int
	due    int // its time: 0, which has come at once, or when it may be tried again
	state  state
}

// pending: nothing can be told of it yet, and it can still be given up.
func (e *entry) pending() bool { return e.state == waiting || e.state == underWay }

// alone: only what has failed once waits with a try behind it, so no mark is kept.
func (e *entry) alone() bool { return e.tries > 0 }

// compare is the order in which requests stand: page by page, those of one page by their numbers.
func (e *entry) compare(other *entry) int {
	return cmp.Or(cmp.Compare(e.page, other.page), cmp.Compare(e.number, other.number))
}

// clashes: the two may not change places, nor go at the same time.
func (e *entry) clashes(other *entry) bool {
	return e.page == other.page && (e.write || other.write)
}

// succeed ends a try without a fault. One that was given up writes all the same.
func (e *entry) succeed(page *content) {
	if e.write {
		*page = e.data
	} else {
		e.data = *page
	}
	if e.state != givenUp {
		e.state = done
	}
}

// miss ends a try with a fault.
func (e *entry) miss(now int) {
	switch {
	case e.state == givenUp:
	case e.tries == api.MaxTries:
		e.state = failed
	default:
		e.state = waiting
		e.due = now + pause(e.tries)
	}
}

// pause is how many ticks a request waits behind so many tries (at least one).
func pause(tries int) int { return min(1<<(tries-1), api.MaxWait) }

// fault wraps a kind into an error of this request.
func (e *entry) fault(kind api.Kind) error {
	return &api.RequestError{Request: e.number, Tries: e.tries, Kind: kind}
}

// outcome is what Poll tells of a request that is no longer pending.
func (e *entry) outcome() (api.Answer, error) {
	switch e.state {
	case givenUp:
		return api.Answer{}, e.fault(api.ErrCancelled)
	case failed:
		return api.Answer{}, e.fault(api.ErrIO)
	}
	answer := api.Answer{Tries: e.tries}
	if !e.write {
		answer.Data = append(answer.Data, e.data[:]...)
	}
	return answer, nil
}
