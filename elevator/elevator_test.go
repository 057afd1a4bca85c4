package elevator_test

import (
	"bytes"
	"errors"
	"math"
	"reflect"
	"runtime"
	"slices"
	"testing"

	"elevator/api"
	"elevator/elevator"
	"elevator/plain"
)

var wrongPages = []int{-1, api.Pages, api.Pages + 1, math.MaxInt, math.MinInt}

var pageData = []byte{1, 2, 3, 4}

func open(t *testing.T, depth int) *elevator.Queue {
	t.Helper()
	q, err := elevator.New(depth)
	if err != nil || q == nil {
		t.Fatalf("P2: New(%d) = %v, %v", depth, q, err)
	}
	return q
}

// wantKind: the error is this kind, of no request, and no other kind.
func wantKind(t *testing.T, what string, err error, kind api.Kind) {
	t.Helper()
	var of *api.RequestError
	if errors.As(err, &of) || !isOnly(err, kind) {
		t.Errorf("%s: error %v, want kind %d of no request", what, err, kind)
	}
}

// wantOf: the error is this kind, of that request, behind so many tries.
func wantOf(t *testing.T, what string, err error, kind api.Kind, request, tries int) {
	t.Helper()
	var of *api.RequestError
	if !errors.As(err, &of) || of.Request != request || of.Tries != tries || !isOnly(err, kind) {
		t.Errorf("%s: error %v, want kind %d of request %d, %d tries", what, err, kind, request, tries)
	}
}

func isOnly(err error, kind api.Kind) bool {
	for k := api.ErrDepth; k <= api.ErrCommand; k++ {
		if errors.Is(err, k) != (k == kind) {
			return false
		}
	}
	return true
}

func wantWaiting(t *testing.T, what string, q *elevator.Queue, want ...int) {
	t.Helper()
	if got := q.Waiting(); !slices.Equal(got, want) {
		t.Errorf("%s: Waiting() = %v, want %v", what, got, want)
	}
}

// fill puts MaxRequests requests into a new queue, reads and writes by turns.
func fill(t *testing.T, q *elevator.Queue) {
	t.Helper()
	for i := 1; i <= api.MaxRequests; i++ {
		var n int
		var err error
		if i%2 == 0 {
			n, err = q.Read(i % api.Pages)
		} else {
			n, err = q.Write(i%api.Pages, pageData)
		}
		if n != i || err != nil {
			t.Fatalf("P3: request %d: %d, %v", i, n, err)
		}
	}
}

func TestNewTakesEveryDepthItMay(t *testing.T) {
	for depth := 1; depth <= api.MaxDepth; depth++ {
		q := open(t, depth)
		if q.Now() != 0 {
			t.Errorf("P2: depth %d: Now() = %d, want 0", depth, q.Now())
		}
		wantWaiting(t, "P2: a new queue", q)
		if disk := q.Disk(); !bytes.Equal(disk, make([]byte, api.Pages*api.PageSize)) {
			t.Errorf("P2: depth %d: Disk() = %v, want noughts", depth, disk)
		}
		if n, err := q.Read(0); n != 1 || err != nil {
			t.Errorf("P2: depth %d: the first request: %d, %v", depth, n, err)
		}
	}
}

func TestNewRefusesOtherDepths(t *testing.T) {
	for _, depth := range []int{0, -1, api.MaxDepth + 1, math.MaxInt, math.MinInt} {
		q, err := elevator.New(depth)
		wantKind(t, "P2: New", err, api.ErrDepth)
		if q != nil {
			t.Errorf("P1: New(%d) gave a queue beside its error", depth)
		}
	}
}

func TestRequestsAreNumberedAsTheyCome(t *testing.T) {
	q := open(t, 2)
	for i, page := range []int{api.Pages - 1, 0, 7, 7} {
		if n, err := q.Read(page); n != 2*i+1 || err != nil {
			t.Errorf("P3: Read(%d) = %d, %v, want %d", page, n, err, 2*i+1)
		}
		if n, err := q.Write(page, pageData); n != 2*i+2 || err != nil {
			t.Errorf("P3: Write(%d) = %d, %v, want %d", page, n, err, 2*i+2)
		}
	}
	wantWaiting(t, "P3: new requests wait", q, 1, 2, 3, 4, 5, 6, 7, 8)
}

func TestReadAndWriteRefuseWrongPages(t *testing.T) {
	q := open(t, 1)
	for _, page := range wrongPages {
		n, err := q.Read(page)
		wantKind(t, "P3: Read", err, api.ErrPage)
		m, err := q.Write(page, pageData)
		wantKind(t, "P3: Write", err, api.ErrPage)
		if n != 0 || m != 0 {
			t.Errorf("P1: page %d: numbers %d and %d beside errors", page, n, m)
		}
	}
	wantWaiting(t, "P1: behind errors", q)
	if n, err := q.Read(0); n != 1 || err != nil {
		t.Errorf("P1: a refused request took a number: %d, %v", n, err)
	}
}

func TestWriteRefusesWrongData(t *testing.T) {
	q := open(t, 1)
	for _, data := range [][]byte{nil, {}, make([]byte, api.PageSize-1), make([]byte, api.PageSize-1, 9), make([]byte, api.PageSize+1), make([]byte, 1<<16)} {
		n, err := q.Write(0, data)
		wantKind(t, "P3: Write", err, api.ErrData)
		if n != 0 {
			t.Errorf("P1: a number beside an error: %d", n)
		}
	}
	if n, err := q.Write(0, pageData); n != 1 || err != nil {
		t.Errorf("P1: a refused request took a number: %d, %v", n, err)
	}
}

func TestErrorsOfWriteComeInTheirOrder(t *testing.T) {
	q := open(t, 1)
	_, err := q.Write(api.Pages, nil)
	wantKind(t, "P3: page ahead of data", err, api.ErrPage)
	fill(t, q)
	_, err = q.Read(-1)
	wantKind(t, "P3: page ahead of full", err, api.ErrPage)
	_, err = q.Write(api.Pages, nil)
	wantKind(t, "P3: page ahead of data and full", err, api.ErrPage)
	_, err = q.Write(0, nil)
	wantKind(t, "P3: data ahead of full", err, api.ErrData)
}

func TestFullTillOneIsTold(t *testing.T) {
	q := open(t, 1)
	fill(t, q)
	wantFull := func(what string) {
		t.Helper()
		n, err := q.Read(0)
		wantKind(t, what, err, api.ErrFull)
		m, err := q.Write(0, pageData)
		wantKind(t, what, err, api.ErrFull)
		if n != 0 || m != 0 {
			t.Errorf("P1: numbers %d and %d beside errors", n, m)
		}
	}
	wantFull("P3: MaxRequests wait")
	if err := q.Cancel(7); err != nil {
		t.Errorf("P5: Cancel(7) = %v", err)
	}
	wantFull("P3: one was given up, but is not told")
	q.Poll(1)
	wantFull("P3: one was asked for, but is pending")
	_, err := q.Poll(7)
	wantOf(t, "P4: Poll(7)", err, api.ErrCancelled, 7, 0)
	if n, err := q.Write(0, pageData); n != api.MaxRequests+1 || err != nil {
		t.Errorf("P3: behind one that was told: %d, %v", n, err)
	}
	wantFull("P3: full again")
}

func TestNumbersAreNeverGivenTwice(t *testing.T) {
	q := open(t, 1)
	for i := 1; i <= 3*api.MaxRequests; i++ {
		if n, err := q.Read(0); n != i || err != nil {
			t.Fatalf("P3: request %d: %d, %v", i, n, err)
		}
		q.Cancel(i)
		q.Poll(i)
	}
	wantWaiting(t, "P6: all were told", q)
}

func TestPollAndCancelRefuseWhatIsNoRequest(t *testing.T) {
	q := open(t, 1)
	q.Read(0)
	for _, request := range []int{0, -1, 2, math.MaxInt, math.MinInt} {
		answer, err := q.Poll(request)
		wantKind(t, "P4: Poll", err, api.ErrRequest)
		if answer.Data != nil || answer.Tries != 0 {
			t.Errorf("P1: an answer beside an error: %+v", answer)
		}
		wantKind(t, "P5: Cancel", q.Cancel(request), api.ErrRequest)
	}
	wantWaiting(t, "P1: behind errors", q, 1)
}

func TestPollOfWhatWaitsTellsNothing(t *testing.T) {
	q := open(t, 1)
	q.Write(3, pageData)
	q.Read(3)
	for range 3 {
		for request := 1; request <= 2; request++ {
			answer, err := q.Poll(request)
			wantOf(t, "P4: Poll", err, api.ErrPending, request, 0)
			if answer.Data != nil || answer.Tries != 0 {
				t.Errorf("P1: an answer beside an error: %+v", answer)
			}
		}
		q.Tick()
	}
	wantWaiting(t, "P4: a pending request stays", q, 1, 2)
}

func TestPollTellsWhatWasGivenUpOnce(t *testing.T) {
	q := open(t, 1)
	q.Write(3, pageData)
	q.Read(3)
	for request := 1; request <= 2; request++ {
		if err := q.Cancel(request); err != nil {
			t.Errorf("P5: Cancel(%d) = %v", request, err)
		}
		answer, err := q.Poll(request)
		wantOf(t, "P4: Poll", err, api.ErrCancelled, request, 0)
		if answer.Data != nil || answer.Tries != 0 {
			t.Errorf("P1: an answer beside an error: %+v", answer)
		}
		_, err = q.Poll(request)
		wantKind(t, "P4: Poll of what is told", err, api.ErrRequest)
		wantKind(t, "P5: Cancel of what is told", q.Cancel(request), api.ErrRequest)
	}
}

func TestCancelGivesUpOnce(t *testing.T) {
	q := open(t, 1)
	for range 3 {
		q.Read(5)
	}
	if err := q.Cancel(2); err != nil {
		t.Errorf("P5: Cancel(2) = %v", err)
	}
	wantWaiting(t, "P5: what is given up waits no longer", q, 1, 3)
	for range 2 {
		wantOf(t, "P5: Cancel again", q.Cancel(2), api.ErrAnswered, 2, 0)
	}
	_, err := q.Poll(2)
	wantOf(t, "P4: a refused Cancel changes nothing", err, api.ErrCancelled, 2, 0)
}

func TestWaitingIsSorted(t *testing.T) {
	q := open(t, 4)
	fill(t, q)
	var want []int
	for i := 1; i <= api.MaxRequests; i++ {
		if i%3 == 0 {
			q.Cancel(i)
		} else {
			want = append(want, i)
		}
	}
	for range 20 {
		wantWaiting(t, "P6: by their numbers", q, want...)
	}
}

func TestTimeGrowsByTicksAlone(t *testing.T) {
	q := open(t, 1)
	for i := range 50 {
		if q.Now() != i {
			t.Fatalf("P6: Now() = %d, want %d", q.Now(), i)
		}
		q.Read(1)
		q.Poll(1)
		q.Cancel(1)
		q.Waiting()
		q.Disk()
		q.Tick()
	}
}

func TestNoCallButACommandWritesTheDisk(t *testing.T) {
	q := open(t, 1)
	q.Write(0, pageData)
	q.Write(api.Pages-1, pageData)
	q.Tick()
	q.Cancel(1)
	q.Poll(1)
	if disk := q.Disk(); !bytes.Equal(disk, make([]byte, api.Pages*api.PageSize)) {
		t.Errorf("P6: Disk() = %v, want noughts", disk)
	}
}

func TestAnswersAreTheCallers(t *testing.T) {
	q := open(t, 1)
	q.Read(1)
	q.Read(2)
	disk, numbers := q.Disk(), q.Waiting()
	for i := range disk[:cap(disk)] {
		disk[:cap(disk)][i] = 99
	}
	for i := range numbers[:cap(numbers)] {
		numbers[:cap(numbers)][i] = 99
	}
	wantWaiting(t, "P1: behind what the caller wrote", q, 1, 2)
	if !bytes.Equal(q.Disk(), make([]byte, api.Pages*api.PageSize)) {
		t.Errorf("P1: the disk behind what the caller wrote: %v", q.Disk())
	}
}

func TestWhatIsHandedInIsOnlyRead(t *testing.T) {
	q := open(t, 1)
	room := []byte{1, 2, 3, 4, 5, 6, 7, 8}
	q.Write(0, room[:api.PageSize])
	q.Write(0, room[:2])
	q.Write(api.Pages, room)
	if !bytes.Equal(room, []byte{1, 2, 3, 4, 5, 6, 7, 8}) {
		t.Errorf("P1: Write changed what it was handed: %v", room)
	}
}

func TestNoQueueHangsOnAnother(t *testing.T) {
	a, b := open(t, 1), open(t, 1)
	a.Read(1)
	a.Read(2)
	a.Tick()
	if n, err := b.Read(3); n != 1 || err != nil {
		t.Errorf("P1: the first request of the other queue: %d, %v", n, err)
	}
	b.Cancel(1)
	b.Poll(1)
	wantWaiting(t, "P1: one queue", a, 1, 2)
	wantWaiting(t, "P1: the other", b)
	if a.Now() != 1 || b.Now() != 0 {
		t.Errorf("P1: the times: %d and %d, want 1 and 0", a.Now(), b.Now())
	}
}

func TestQueuesThatNewDidNotMake(t *testing.T) {
	for _, q := range []*elevator.Queue{nil, {}} {
		_, err := q.Read(api.Pages)
		wantKind(t, "P1: Read", err, api.ErrPage)
		_, err = q.Write(0, nil)
		wantKind(t, "P1: Write", err, api.ErrData)
		_, err = q.Read(0)
		wantKind(t, "P1: Read", err, api.ErrFull)
		_, err = q.Write(0, pageData)
		wantKind(t, "P1: Write", err, api.ErrFull)
		_, err = q.Poll(1)
		wantKind(t, "P1: Poll", err, api.ErrRequest)
		wantKind(t, "P1: Cancel", q.Cancel(1), api.ErrRequest)
		wantWaiting(t, "P1", q)
		if q.Now() != 0 || !bytes.Equal(q.Disk(), make([]byte, api.Pages*api.PageSize)) {
			t.Errorf("P1: the time %d, the disk %v", q.Now(), q.Disk())
		}
		q.Tick()
		steps(t, q, "none")
		wantFlights(t, "P1", q)
		wantKind(t, "P1: Complete", q.Complete(0, true), api.ErrCommand)
		drive(t, q, faulty(3), 0, q.Now())
		q.Crash(faulty(3))
		wantNothing(t, q, 1)
		wantDisk(t, "P1", q)
	}
}

func TestNoGoroutineIsLeft(t *testing.T) {
	before := runtime.NumGoroutine()
	q := open(t, api.MaxDepth)
	fill(t, q)
	q.Cancel(1)
	q.Poll(1)
	q.Tick()
	q.Step()
	q.Step()
	q.Flights()
	q.Complete(1, true)
	q.Complete(0, false)
	q.Crash([]bool{true})
	if after := runtime.NumGoroutine(); after > before {
		t.Errorf("P1: %d goroutines, %d before", after, before)
	}
}

func TestErrorsInPlainData(t *testing.T) {
	_, depth := plain.New(0)
	q, none := plain.New(1)
	_, page := plain.Read(q, api.Pages)
	_, data := plain.Write(q, 0, nil)
	plain.Read(q, 0)
	_, pending := plain.Poll(q, 1)
	plain.Cancel(q, 1)
	answered := plain.Cancel(q, 1)
	_, cancelled := plain.Poll(q, 1)
	_, told := plain.Poll(q, 1)
	got := []plain.Error{depth, none, page, data, pending, answered, cancelled, told}
	want := []plain.Error{
		{Kind: api.ErrDepth, Request: -1, Same: true},
		{Request: -1, Same: true},
		{Kind: api.ErrPage, Request: -1, Same: true},
		{Kind: api.ErrData, Request: -1, Same: true},
		{Kind: api.ErrPending, Request: 1, Same: true},
		{Kind: api.ErrAnswered, Request: 1, Same: true},
		{Kind: api.ErrCancelled, Request: 1, Same: true},
		{Kind: api.ErrRequest, Request: -1, Same: true},
	}
	if !reflect.DeepEqual(got, want) {
		t.Errorf("P1 to P5: errors in plain data:\n%+v, want\n%+v", got, want)
	}
}
