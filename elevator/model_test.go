package elevator_test

import (
	"fmt"
	"math/rand"
	"slices"
	"testing"

	"elevator/api"
	"elevator/elevator"
)

// asked is a request of the model.
type asked struct {
	page                  int
	write                 bool
	data                  [4]byte
	waits, flies          bool
	givenUp, failed, told bool
	alone                 bool
	tries, time           int
}

// model is P3 to P11 said once more, as plainly as can be: all requests that ever were, gone through anew at each call.
type model struct {
	depth, now, head int
	all              []*asked // the request n is at n-1
	flights          []api.Command
	disk             [16][4]byte
}

func (m *model) ask(page int, write bool, data []byte) (int, error) {
	untold := 0
	for _, a := range m.all {
		if !a.told {
			untold++
		}
	}
	switch {
	case page < 0 || page > 15:
		return 0, api.ErrPage
	case write && len(data) != 4:
		return 0, api.ErrData
	case untold == 40:
		return 0, api.ErrFull
	}
	a := &asked{page: page, write: write, waits: true}
	copy(a.data[:], data)
	m.all = append(m.all, a)
	return len(m.all), nil
}

func (m *model) find(request int) *asked {
	if request < 1 || request > len(m.all) || m.all[request-1].told {
		return nil
	}
	return m.all[request-1]
}

func (m *model) poll(request int) (api.Answer, error) {
	a := m.find(request)
	if a == nil {
		return api.Answer{}, api.ErrRequest
	}
	if a.waits || a.flies && !a.givenUp {
		return api.Answer{}, &api.RequestError{Request: request, Tries: a.tries, Kind: api.ErrPending}
	}
	a.told = true
	switch {
	case a.givenUp:
		return api.Answer{}, &api.RequestError{Request: request, Tries: a.tries, Kind: api.ErrCancelled}
	case a.failed:
		return api.Answer{}, &api.RequestError{Request: request, Tries: a.tries, Kind: api.ErrIO}
	case a.write:
		return api.Answer{Tries: a.tries}, nil
	}
	return api.Answer{Data: a.data[:], Tries: a.tries}, nil
}

func (m *model) cancel(request int) error {
	a := m.find(request)
	if a == nil {
		return api.ErrRequest
	}
	if a.givenUp || !a.waits && !a.flies {
		return &api.RequestError{Request: request, Tries: a.tries, Kind: api.ErrAnswered}
	}
	a.givenUp, a.waits = true, false
	return nil
}

func (m *model) waiting() []int {
	var w []int
	for i, a := range m.all {
		if a.waits {
			w = append(w, i+1)
		}
	}
	return w
}

func (m *model) ready(request int) bool {
	a := m.all[request-1]
	if !a.waits || a.time > m.now {
		return false
	}
	for _, b := range m.all[:request-1] {
		if b.page == a.page && (b.waits || b.flies) && (b.write || a.write) {
			return false
		}
	}
	return true
}

// readyAt: the ready requests to a page, by their numbers.
func (m *model) readyAt(page int) []int {
	var r []int
	for i, a := range m.all {
		if a.page == page && m.ready(i+1) {
			r = append(r, i+1)
		}
	}
	return r
}

func (m *model) firstPage() int {
	for page := m.head; page < 16; page++ {
		if len(m.readyAt(page)) > 0 {
			return page
		}
	}
	for page := range 16 {
		if len(m.readyAt(page)) > 0 {
			return page
		}
	}
	return -1
}

func (m *model) step() (api.Command, bool) {
	page := m.firstPage()
	if len(m.flights) == m.depth || page < 0 {
		return api.Command{}, false
	}
	first := m.readyAt(page)[0]
	c := api.Command{Write: m.all[first-1].write, Page: page}
	for p := page; p < 16 && p < page+4; p++ {
		var at []int
		for _, n := range m.readyAt(p) {
			if a := m.all[n-1]; a.write == c.Write && !a.alone {
				at = append(at, n)
			}
		}
		if m.all[first-1].alone {
			at = []int{first}
		}
		if at == nil {
			break
		}
		c.Count++
		c.Requests = append(c.Requests, at...)
		if m.all[first-1].alone {
			break
		}
	}
	for _, n := range c.Requests {
		m.all[n-1].waits, m.all[n-1].flies = false, true
	}
	m.head = c.Page + c.Count
	m.flights = append(m.flights, c)
	return c, true
}

func (m *model) complete(k int, fault bool) error {
	if k < 0 || k >= len(m.flights) {
		return api.ErrCommand
	}
	for _, n := range m.flights[k].Requests {
		a := m.all[n-1]
		a.flies = false
		a.tries++
		switch {
		case !fault && a.write:
			m.disk[a.page] = a.data
		case !fault:
			a.data = m.disk[a.page]
		case a.givenUp:
		case a.tries == 4:
			a.failed = true
		default:
			a.waits, a.alone = true, true
			a.time = m.now + []int{0, 1, 2, 4}[a.tries]
		}
	}
	m.flights = slices.Delete(m.flights, k, k+1)
	return nil
}

func (m *model) drive(faults []bool) int {
	for completed := 0; ; {
		_, sent := m.step()
		switch {
		case sent:
		case len(m.flights) > 0:
			m.complete(0, completed < len(faults) && faults[completed])
			completed++
		case len(m.waiting()) > 0:
			m.now++
		default:
			return completed
		}
	}
}

func (m *model) crash(kept []bool) {
	for _, c := range m.flights {
		for _, n := range c.Requests {
			if !c.Write || len(kept) == 0 {
				continue
			}
			if kept[0] {
				m.disk[m.all[n-1].page] = m.all[n-1].data
			}
			kept = kept[1:]
		}
	}
	for _, a := range m.all {
		a.waits, a.flies, a.told = false, false, true
	}
	m.flights, m.head = nil, 0
}

// chances is a list of any length up to most, in which so many of a hundred are true.
func chances(r *rand.Rand, most, percent int) []bool {
	list := make([]bool, r.Intn(most+1))
	for i := range list {
		list[i] = r.Intn(100) < percent
	}
	return list
}

// tell puts a call's answers into a text, an error's request and tries too.
func tell(answers ...any) string {
	for i, a := range answers {
		if err, ok := a.(error); ok {
			kind, request, tries := api.Told(err)
			answers[i] = []int{int(kind), request, tries}
		}
	}
	return fmt.Sprintf("%+v", answers)
}

// both makes one call, taken by chance, of the queue and of the model, and tells the call and both answers.
func both(r *rand.Rand, q *elevator.Queue, m *model, pages, faults int) (string, string, string) {
	page, data := r.Intn(pages), []byte{byte(r.Intn(256)), 1, 2, 3}
	if r.Intn(40) == 0 {
		page, data = r.Intn(18)-1, make([]byte, 3+r.Intn(3))
	}
	request := len(m.all) + 1 - r.Intn(60)
	k, fault := r.Intn(m.depth+2)-1, r.Intn(100) < faults
	if r.Intn(60) == 0 {
		list := chances(r, 40, faults)
		return tell("Drive", list), tell(q.Drive(list)), tell(m.drive(list))
	}
	if r.Intn(60) == 0 {
		list := chances(r, 8, 50)
		q.Crash(list)
		m.crash(list)
		return tell("Crash", list), "", ""
	}
	switch r.Intn(12) {
	case 0, 1:
		n, err := q.Read(page)
		n2, err2 := m.ask(page, false, nil)
		return tell("Read", page), tell(n, err), tell(n2, err2)
	case 2, 3:
		n, err := q.Write(page, data)
		n2, err2 := m.ask(page, true, data)
		return tell("Write", page, data), tell(n, err), tell(n2, err2)
	case 4, 5:
		a, err := q.Poll(request)
		a2, err2 := m.poll(request)
		return tell("Poll", request), tell(a, err), tell(a2, err2)
	case 6:
		return tell("Cancel", request), tell(q.Cancel(request)), tell(m.cancel(request))
	case 7:
		q.Tick()
		m.now++
		return tell("Tick"), "", ""
	case 8, 9:
		c, ok := q.Step()
		c2, ok2 := m.step()
		return tell("Step"), tell(c, ok), tell(c2, ok2)
	}
	return tell("Complete", k, fault), tell(q.Complete(k, fault)), tell(m.complete(k, fault))
}

func TestManyCallsAgainstTheModel(t *testing.T) {
	for seed := range 240 {
		r := rand.New(rand.NewSource(int64(seed)))
		depth := 1 + seed%api.MaxDepth
		q, m := open(t, depth), &model{depth: depth}
		pages := []int{2, 5, 16}[seed%3]
		faults := []int{0, 20, 50, 80}[seed/12%4]
		for i := range 600 {
			call, got, want := both(r, q, m, pages, faults)
			if got != want {
				t.Fatalf("P3 to P11: seed %d, call %d: %s = %s, want %s", seed, i, call, got, want)
			}
			if !slices.Equal(q.Waiting(), m.waiting()) || q.Now() != m.now {
				t.Fatalf("P6: seed %d, call %d: behind %s: Waiting() = %v, want %v; Now() = %d, want %d", seed, i, call, q.Waiting(), m.waiting(), q.Now(), m.now)
			}
			if got, want := fmt.Sprint(q.Flights()), fmt.Sprint(m.flights); got != want {
				t.Fatalf("P8: seed %d, call %d: behind %s: Flights() = %s, want %s", seed, i, call, got, want)
			}
			if got, want := fmt.Sprint(q.Disk()), fmt.Sprint(slices.Concat(pagesOf(m)...)); got != want {
				t.Fatalf("P9 to P11: seed %d, call %d: behind %s: Disk() = %s, want %s", seed, i, call, got, want)
			}
		}
	}
}

func pagesOf(m *model) [][]byte {
	var pages [][]byte
	for i := range m.disk {
		pages = append(pages, m.disk[i][:])
	}
	return pages
}

// past is a request of a history: what a write brings, and whether a command has written it.
type past struct {
	page    int
	data    []byte
	written bool
}

// left is what the page of the request at place i has, if the requests ahead of it were done one behind the other.
func left(history []past, i int) []byte {
	for k := i - 1; k >= 0; k-- {
		if history[k].page == history[i].page && history[k].written {
			return history[k].data
		}
	}
	return make([]byte, api.PageSize)
}

func TestEachPageReadsAsIfOneWereDoneBehindTheOther(t *testing.T) {
	read := 0
	for seed := range 40 {
		r := rand.New(rand.NewSource(int64(seed)))
		q := open(t, 1+seed%api.MaxDepth)
		var history []past
		for range 1500 {
			q.Step()
			switch k := r.Intn(api.MaxDepth); r.Intn(6) {
			case 0:
				page := r.Intn(4)
				if _, err := q.Read(page); err == nil {
					history = append(history, past{page: page})
				}
			case 1:
				page, data := r.Intn(4), []byte{byte(r.Intn(256)), byte(r.Intn(256)), 5, 5}
				if _, err := q.Write(page, data); err == nil {
					history = append(history, past{page: page, data: data})
				}
			case 2:
				q.Tick()
				q.Complete(k, true)
			case 3:
				flights := q.Flights()
				if q.Complete(k, false) == nil && flights[k].Write {
					for _, n := range flights[k].Requests {
						history[n-1].written = true
					}
				}
			case 4:
				q.Cancel(len(history) - r.Intn(40))
			}
			n := len(history) - r.Intn(40)
			if answer, err := q.Poll(n); err == nil && answer.Data != nil {
				read++
				if want := left(history, n-1); !slices.Equal(answer.Data, want) {
					t.Fatalf("P7, P9: seed %d: read %d of page %d got %v, want %v", seed, n, history[n-1].page, answer.Data, want)
				}
			}
		}
	}
	if read < 1000 {
		t.Errorf("only %d reads were held against their history", read)
	}
}
