package elevator

import "elevator/api"

// content is a page's bytes: an array, so that no two holders of it share memory.
type content [api.PageSize]byte

// state is how far a request has come.
type state int

const (
	waiting state = iota
	underWay
	done
	failed
	givenUp // whether its command is still under way or not: Poll and Cancel answer the same
)

// entry is a request that is not told yet.
type entry struct {
	number int
	page   int
	write  bool
	data   content // what a write brings, or what a read that is done has got
	tries  int
	state  state
}

// pending: nothing can be told of it yet, and it can still be given up.
func (e *entry) pending() bool { return e.state == waiting || e.state == underWay }

// fault wraps a kind into an error of this request.
func (e *entry) fault(kind api.Kind) error {
	return &api.RequestError{Request: e.number, Tries: e.tries, Kind: kind}
}

// outcome is what Poll tells of a request that is no longer pending.
func (e *entry) outcome() (api.Answer, error) {
	switch e.state {
	case givenUp:
		return api.Answer{}, e.fault(api.ErrCancelled)
	case failed:
		return api.Answer{}, e.fault(api.ErrIO)
	}
	answer := api.Answer{Tries: e.tries}
	if !e.write {
		answer.Data = append(answer.Data, e.data[:]...)
	}
	return answer, nil
}
