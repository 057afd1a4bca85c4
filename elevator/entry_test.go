package elevator

// Tests from within: what no call shows as long as no command is sent.

import (
	"errors"
	"math/rand"
	"reflect"
	"slices"
	"testing"

	"elevator/api"
)

// withEntry is a queue whose one request, number 1 to page 3, has come so far.
func withEntry(t *testing.T, write bool, tries int, s state) *Queue {
	t.Helper()
	q, err := New(1)
	if err != nil {
		t.Fatal(err)
	}
	if write {
		_, err = q.Write(3, []byte{1, 2, 3, 4})
	} else {
		_, err = q.Read(3)
	}
	if err != nil {
		t.Fatal(err)
	}
	e := q.requests[1]
	e.tries, e.state, e.data = tries, s, content{1, 2, 3, 4}
	return q
}

func wantFault(t *testing.T, what string, err error, kind api.Kind, tries int) {
	t.Helper()
	if k, r, n := api.Told(err); k != kind || r != 1 || n != tries || !errors.Is(err, kind) {
		t.Errorf("%s: error %v, want kind %d of request 1, %d tries", what, err, kind, tries)
	}
}

// copyOf is all that a queue holds, apart from it.
func copyOf(q *Queue) Queue {
	c := *q
	c.requests = make(map[int]*entry)
	for n, e := range q.requests {
		apart := *e
		c.requests[n] = &apart
	}
	return c
}

func TestNewKeepsTheDepth(t *testing.T) {
	for depth := 1; depth <= api.MaxDepth; depth++ {
		if q, err := New(depth); err != nil || q.depth != depth {
			t.Errorf("P2: New(%d): depth %d, %v", depth, q.depth, err)
		}
	}
}

func TestWriteKeepsItsOwnData(t *testing.T) {
	q, _ := New(1)
	room := []byte{1, 2, 3, 4, 5, 6}
	q.Write(9, room[:api.PageSize])
	clear(room)
	if e := q.requests[1]; !e.write || e.page != 9 || e.data != (content{1, 2, 3, 4}) {
		t.Errorf("P1, P3: a write behind what the caller wrote: %+v", *e)
	}
	q.Read(15)
	if e := q.requests[2]; e.write || e.page != 15 {
		t.Errorf("P3: a read: %+v", *e)
	}
}

func TestPollOfWhatIsDone(t *testing.T) {
	for _, write := range []bool{false, true} {
		q := withEntry(t, write, 2, done)
		q.disk[3] = content{9, 9, 9, 9}
		wantFault(t, "P5: Cancel of what is done", q.Cancel(1), api.ErrAnswered, 2)
		answer, err := q.Poll(1)
		want := []byte{1, 2, 3, 4}
		if write {
			want = nil
		}
		if err != nil || answer.Tries != 2 || !slices.Equal(answer.Data, want) {
			t.Errorf("P4: Poll (write: %v) = %+v, %v", write, answer, err)
		}
		if _, err := q.Poll(1); err != api.ErrRequest {
			t.Errorf("P4: told a second time: %v", err)
		}
		if len(q.requests) != 0 {
			t.Errorf("P4: what is told is still held")
		}
	}
}

func TestAnswerIsNewMemory(t *testing.T) {
	q := withEntry(t, false, 1, done)
	q.disk[3] = content{1, 2, 3, 4}
	e := q.requests[1]
	answer, _ := q.Poll(1)
	clear(answer.Data[:cap(answer.Data)])
	if q.disk[3] != (content{1, 2, 3, 4}) || e.data != (content{1, 2, 3, 4}) {
		t.Errorf("P1: an answer shares memory with the queue")
	}
}

func TestPollOfWhatFailed(t *testing.T) {
	q := withEntry(t, false, api.MaxTries, failed)
	wantFault(t, "P5: Cancel of what failed", q.Cancel(1), api.ErrAnswered, api.MaxTries)
	answer, err := q.Poll(1)
	wantFault(t, "P4: Poll of what failed", err, api.ErrIO, api.MaxTries)
	if answer.Data != nil || answer.Tries != 0 {
		t.Errorf("P1: an answer beside an error: %+v", answer)
	}
	if _, err := q.Poll(1); err != api.ErrRequest {
		t.Errorf("P4: told a second time: %v", err)
	}
}

func TestRequestUnderWay(t *testing.T) {
	q := withEntry(t, true, 3, underWay)
	if w := q.Waiting(); len(w) != 0 {
		t.Errorf("P6: Waiting() = %v, but the request is under way", w)
	}
	_, err := q.Poll(1)
	wantFault(t, "P4: Poll of what is under way", err, api.ErrPending, 3)
	if err := q.Cancel(1); err != nil {
		t.Errorf("P5: Cancel of what is under way: %v", err)
	}
	e := q.requests[1]
	if e.data != (content{1, 2, 3, 4}) {
		t.Errorf("P5: what it would have written is lost: %v", e.data)
	}
	wantFault(t, "P5: Cancel again", q.Cancel(1), api.ErrAnswered, 3)
	_, err = q.Poll(1)
	wantFault(t, "P4: Poll of what was given up under way", err, api.ErrCancelled, 3)
}

func TestWaitingAgainTellsItsTries(t *testing.T) {
	q := withEntry(t, false, 2, waiting)
	_, err := q.Poll(1)
	wantFault(t, "P4: Poll of what waits again", err, api.ErrPending, 2)
	if w := q.Waiting(); !slices.Equal(w, []int{1}) {
		t.Errorf("P6: Waiting() = %v, want 1", w)
	}
	q.Cancel(1)
	_, err = q.Poll(1)
	wantFault(t, "P4: Poll of what was given up", err, api.ErrCancelled, 2)
}

func TestDiskGoesPageByPage(t *testing.T) {
	q, _ := New(1)
	var want []byte
	for page := range api.Pages {
		for i := range api.PageSize {
			q.disk[page][i] = byte(page*api.PageSize + i)
			want = append(want, byte(page*api.PageSize+i))
		}
	}
	if disk := q.Disk(); !slices.Equal(disk, want) {
		t.Errorf("P6: Disk() = %v", disk)
	}
}

func TestErrorsAndQuestionsChangeNothing(t *testing.T) {
	q := withEntry(t, false, 1, done)
	for range api.MaxRequests - 1 {
		q.Read(0)
	}
	q.Cancel(2)
	before := copyOf(q)
	q.Read(-1)
	q.Read(0)
	q.Write(api.Pages, nil)
	q.Write(0, nil)
	q.Write(0, []byte{1, 2, 3, 4})
	q.Poll(0)
	q.Poll(3)
	q.Poll(api.MaxRequests + 1)
	q.Cancel(0)
	q.Cancel(1)
	q.Cancel(2)
	q.Waiting()
	q.Now()
	q.Disk()
	if !reflect.DeepEqual(before, *q) {
		t.Errorf("P1: the queue has changed: %+v, before %+v", *q, before)
	}
}

// model is P3 to P6 said once more, as plainly as can be: by number 0 is told, 1 waits, 2 is given up.
type model struct {
	state []int
}

func (m *model) untold() int {
	n := 0
	for _, s := range m.state {
		if s != 0 {
			n++
		}
	}
	return n
}

func (m *model) ask(page, size int) (int, api.Kind) {
	switch {
	case page < 0 || page > 15:
		return 0, api.ErrPage
	case size != 4:
		return 0, api.ErrData
	case m.untold() == 40:
		return 0, api.ErrFull
	}
	m.state = append(m.state, 1)
	return len(m.state), 0
}

func (m *model) look(request int) int {
	if request < 1 || request > len(m.state) {
		return 0
	}
	return m.state[request-1]
}

func (m *model) poll(request int) api.Kind {
	switch m.look(request) {
	case 1:
		return api.ErrPending
	case 2:
		m.state[request-1] = 0
		return api.ErrCancelled
	}
	return api.ErrRequest
}

func (m *model) cancel(request int) api.Kind {
	switch m.look(request) {
	case 1:
		m.state[request-1] = 2
		return 0
	case 2:
		return api.ErrAnswered
	}
	return api.ErrRequest
}

func (m *model) waiting() []int {
	var w []int
	for i, s := range m.state {
		if s == 1 {
			w = append(w, i+1)
		}
	}
	return w
}

func TestManyCallsAgainstTheModel(t *testing.T) {
	for seed := range 20 {
		r := rand.New(rand.NewSource(int64(seed)))
		q, _ := New(1 + seed%api.MaxDepth)
		m := &model{}
		for range 1500 {
			page, size, request := r.Intn(18)-1, 4-r.Intn(12)/11, r.Intn(len(m.state)+3)-1
			var got, want api.Kind
			var n, number int
			var err error
			switch r.Intn(5) {
			case 0:
				n, err = q.Read(page)
				number, want = m.ask(page, 4)
			case 1:
				n, err = q.Write(page, make([]byte, size))
				number, want = m.ask(page, size)
			case 2, 3:
				_, err = q.Poll(request)
				want = m.poll(request)
			case 4:
				err = q.Cancel(request)
				want = m.cancel(request)
			}
			got, _, _ = api.Told(err)
			if got != want || n != number || !slices.Equal(q.Waiting(), m.waiting()) {
				t.Fatalf("P3 to P6: seed %d: page %d, size %d, request %d: %d, error %d, waiting %v; want %d, error %d, waiting %v", seed, page, size, request, n, got, q.Waiting(), number, want, m.waiting())
			}
		}
	}
}
