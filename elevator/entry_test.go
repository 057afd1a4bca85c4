package elevator

// Tests from within: what no call shows.

import (
	"reflect"
	"slices"
	"testing"

	"elevator/api"
)

// copyOf is all that a queue holds, apart from it.
func copyOf(q *Queue) Queue {
	c := *q
	twin := make(map[*entry]*entry)
	apart := func(e *entry) *entry {
		if twin[e] == nil {
			same := *e
			twin[e] = &same
		}
		return twin[e]
	}
	c.requests = make(map[int]*entry)
	for n, e := range q.requests {
		c.requests[n] = apart(e)
	}
	c.flights = nil
	for _, f := range q.flights {
		var members flight
		for _, e := range f {
			members = append(members, apart(e))
		}
		c.flights = append(c.flights, members)
	}
	return c
}

// busy is a full queue with requests of every state: 1 under way, 2 given up under way, 3 the same and told, 4 done, 5 failed, 6 given up, 7 waiting again, others waiting.
func busy(t *testing.T) *Queue {
	t.Helper()
	q, err := New(2)
	if err != nil {
		t.Fatal(err)
	}
	write := func(page int) { q.Write(page, []byte{1, 2, 3, 4}) }
	for range 3 {
		q.Read(3)
	}
	q.Step()
	q.Cancel(2)
	q.Cancel(3)
	q.Poll(3)
	write(8)
	q.Step()
	q.Complete(1, false)
	write(8)
	for range api.MaxTries {
		q.Step()
		q.Complete(1, true)
		for range api.MaxWait {
			q.Tick()
		}
	}
	q.Read(9)
	q.Cancel(6)
	write(10)
	q.Step()
	q.Complete(1, true)
	for len(q.requests) < api.MaxRequests {
		write(3)
	}
	want := []state{underWay, givenUp, -1, done, failed, givenUp, waiting, waiting}
	for i, s := range want {
		if e := q.requests[i+1]; s >= 0 && e.state != s || s < 0 && e != nil {
			t.Fatalf("request %d: %+v, want state %d", i+1, e, s)
		}
	}
	return q
}

func TestErrorsAndQuestionsChangeNothing(t *testing.T) {
	q := busy(t)
	before := copyOf(q)
	q.Read(-1)
	q.Read(0)
	q.Write(api.Pages, nil)
	q.Write(0, nil)
	q.Write(0, []byte{1, 2, 3, 4})
	for _, pendingOrNone := range []int{-1, 0, 1, 3, 7, 8, q.last, q.last + 1} {
		q.Poll(pendingOrNone)
	}
	for _, answeredOrNone := range []int{-1, 0, 2, 3, 4, 5, 6, q.last + 1} {
		q.Cancel(answeredOrNone)
	}
	for _, k := range []int{-1, 1, 2, 1 << 62} {
		q.Complete(k, false)
		q.Complete(k, true)
	}
	q.Step()
	q.Waiting()
	q.Flights()
	q.Now()
	q.Disk()
	if !reflect.DeepEqual(before, *q) {
		t.Errorf("P1: the queue has changed: %+v, before %+v", *q, before)
	}
}

func TestWhatIsToldIsHeldByItsCommandAlone(t *testing.T) {
	q := busy(t)
	if q.requests[3] != nil || len(q.flights) != 1 || len(q.flights[0]) != 3 {
		t.Errorf("P4, P5: requests %v, flights %v", q.requests, q.flights)
	}
	q.Complete(0, false)
	if len(q.flights) != 0 {
		t.Errorf("P9: a command that has ended is still held: %v", q.flights)
	}
	for n := range q.last {
		q.Cancel(n + 1)
		q.Poll(n + 1)
	}
	if len(q.requests) != 0 {
		t.Errorf("P4: what is told is still held: %v", q.requests)
	}
}

func TestACrashLeavesNothingButWhatStays(t *testing.T) {
	q := busy(t)
	want := Queue{depth: q.depth, now: q.now, last: q.last, requests: map[int]*entry{}, disk: q.disk}
	q.Crash([]bool{true})
	if !reflect.DeepEqual(want, *q) {
		t.Errorf("P11: %+v, want %+v", *q, want)
	}
}

// No request of MaxTries tries waits so long, so MaxWait is seen only here.
func TestPauseIsAtMostMaxWait(t *testing.T) {
	var got []int
	for tries := 1; tries <= 6; tries++ {
		got = append(got, pause(tries))
	}
	if want := []int{1, 2, 4, 8, api.MaxWait, api.MaxWait}; !slices.Equal(got, want) {
		t.Errorf("P9: pauses %v, want %v", got, want)
	}
}
