// Package elevator: a queue of requests to a disk: see DOC.md.
package elevator

import (
	"slices"

	"elevator/api"
)

// Queue is a disk and the requests to it.
type Queue struct {
	depth    int // 0: New did not make it
	now      int
	last     int            // the highest number given so far: numbers never come again
	requests map[int]*entry // by their numbers; what is told is deleted
	flights  []flight       // the commands under way, as they were sent
	head     int            // the page from which on the next command is looked for; Pages, behind the last one
	disk     [api.Pages]content
}

// New makes one (P2).
func New(depth int) (*Queue, error) {
	if depth < 1 || depth > api.MaxDepth {
		return nil, api.ErrDepth
	}
	return &Queue{depth: depth, requests: make(map[int]*entry)}, nil
}

// Read asks for a page (P3).
func (q *Queue) Read(page int) (int, error) {
	if !onDisk(page) {
		return 0, api.ErrPage
	}
	return q.orEmpty().add(entry{page: page})
}

// Write asks for a page to be written (P3).
func (q *Queue) Write(page int, data []byte) (int, error) {
	if !onDisk(page) {
		return 0, api.ErrPage
	}
	if len(data) != api.PageSize {
		return 0, api.ErrData
	}
	e := entry{page: page, write: true}
	copy(e.data[:], data)
	return q.orEmpty().add(e)
}

// Poll tells what became of a request (P4).
func (q *Queue) Poll(request int) (api.Answer, error) {
	q = q.orEmpty()
	e, ok := q.requests[request]
	if !ok {
		return api.Answer{}, api.ErrRequest
	}
	if e.pending() {
		return api.Answer{}, e.fault(api.ErrPending)
	}
	delete(q.requests, request)
	return e.outcome()
}

// Cancel gives a request up (P5).
func (q *Queue) Cancel(request int) error {
	e, ok := q.orEmpty().requests[request]
	if !ok {
		return api.ErrRequest
	}
	if !e.pending() {
		return e.fault(api.ErrAnswered)
	}
	e.state = givenUp
	return nil
}

// Waiting tells the requests that wait (P6).
func (q *Queue) Waiting() []int {
	var numbers []int
	for number, e := range q.orEmpty().requests {
		if e.state == waiting {
			numbers = append(numbers, number)
		}
	}
	slices.Sort(numbers)
	return numbers
}

// Tick lets time pass (P6).
func (q *Queue) Tick() { q.orEmpty().now++ }

// Now tells the time (P6).
func (q *Queue) Now() int { return q.orEmpty().now }

// Disk tells what the disk has (P6).
func (q *Queue) Disk() []byte {
	var all []byte
	for _, page := range q.orEmpty().disk {
		all = append(all, page[:]...)
	}
	return all
}

// Step sends the next command (P7, P8).
func (q *Queue) Step() (api.Command, bool) {
	q = q.orEmpty()
	next := q.next()
	if len(next) == 0 {
		return api.Command{}, false
	}
	for _, e := range next {
		e.state = underWay
	}
	q.flights = append(q.flights, next)
	command := next.command()
	q.head = command.Page + command.Count
	return command, true
}

// Flights tells the commands under way (P8).
func (q *Queue) Flights() []api.Command {
	var commands []api.Command
	for _, f := range q.orEmpty().flights {
		commands = append(commands, f.command())
	}
	return commands
}

// Complete ends a command (P9).
func (q *Queue) Complete(k int, fault bool) error {
	q = q.orEmpty()
	if k < 0 || k >= len(q.flights) {
		return api.ErrCommand
	}
	q.finish(q.land(k), fault)
	return nil
}

// Drive does all that is to be done (P10).
func (q *Queue) Drive(faults []bool) int {
	q = q.orEmpty()
	disk := q.startDisk()
	defer disk.stop()
	completed := 0
	for {
		q.sendAll()
		switch {
		case len(q.flights) > 0:
			disk.carryOut(order{q.land(0), at(faults, completed)})
			completed++
		case len(q.Waiting()) > 0:
			q.Tick()
		default:
			return completed
		}
	}
}

// Crash fails the power (P11).
func (q *Queue) Crash(kept []bool) {
	q = q.orEmpty()
	for i, e := range q.writesUnderWay() {
		if at(kept, i) {
			q.disk[e.page] = e.data
		}
	}
	clear(q.requests)
	q.flights = nil
	q.head = 0
}

// orEmpty stands an empty queue in for none: a call on a nil queue must not panic (P1).
func (q *Queue) orEmpty() *Queue {
	if q == nil {
		return &Queue{}
	}
	return q
}

// add takes a new request in.
func (q *Queue) add(e entry) (int, error) {
	if q.full() {
		return 0, api.ErrFull
	}
	q.last++
	e.number = q.last
	q.requests[e.number] = &e
	return e.number, nil
}

// full: a queue that New did not make has room for none, since no command of it could ever be under way.
func (q *Queue) full() bool { return q.depth == 0 || len(q.requests) >= api.MaxRequests }

func onDisk(page int) bool { return page >= 0 && page < api.Pages }

// at reads a list of the caller's: behind its last value all are false, whatever its spare room holds.
func at(list []bool, i int) bool { return i < len(list) && list[i] }
