package elevator_test

import (
	"bytes"
	"fmt"
	"math"
	"slices"
	"testing"

	"elevator/api"
	"elevator/elevator"
	"elevator/plain"
)

func reads(t *testing.T, q *elevator.Queue, pages ...int) {
	t.Helper()
	for _, page := range pages {
		if _, err := q.Read(page); err != nil {
			t.Fatalf("P3: Read(%d): %v", page, err)
		}
	}
}

// writes asks for pages to be written, each with its own number in all its bytes.
func writes(t *testing.T, q *elevator.Queue, pages ...int) {
	t.Helper()
	for _, page := range pages {
		if _, err := q.Write(page, bytes.Repeat([]byte{byte(page)}, api.PageSize)); err != nil {
			t.Fatalf("P3: Write(%d): %v", page, err)
		}
	}
}

// show tells a command as kind, first page, count, requests: r5+2[1 3].
func show(c api.Command) string {
	kind := "r"
	if c.Write {
		kind = "w"
	}
	return fmt.Sprintf("%s%d+%d%v", kind, c.Page, c.Count, c.Requests)
}

// steps sends commands: these, one behind the other ("none": there is none).
func steps(t *testing.T, q *elevator.Queue, want ...string) {
	t.Helper()
	for _, w := range want {
		c, ok := q.Step()
		switch {
		case w != "none" && (!ok || show(c) != w):
			t.Fatalf("P7, P8: Step() = %s, %v, want %s", show(c), ok, w)
		case w == "none" && (ok || c.Write || c.Page != 0 || c.Count != 0 || c.Requests != nil):
			t.Fatalf("P7, P8: Step() = %s, %v, want none", show(c), ok)
		}
	}
}

func complete(t *testing.T, q *elevator.Queue, k int, fault bool) {
	t.Helper()
	if err := q.Complete(k, fault); err != nil {
		t.Fatalf("P9: Complete(%d, %v): %v", k, fault, err)
	}
}

func cancel(t *testing.T, q *elevator.Queue, request int) {
	t.Helper()
	if err := q.Cancel(request); err != nil {
		t.Fatalf("P5: Cancel(%d): %v", request, err)
	}
}

func ticks(q *elevator.Queue, n int) {
	for range n {
		q.Tick()
	}
}

func wantFlights(t *testing.T, what string, q *elevator.Queue, want ...string) {
	t.Helper()
	var got []string
	for _, c := range q.Flights() {
		got = append(got, show(c))
	}
	if !slices.Equal(got, want) {
		t.Errorf("%s: Flights() = %v, want %v", what, got, want)
	}
}

func wantPage(t *testing.T, what string, q *elevator.Queue, page int, want ...byte) {
	t.Helper()
	if got := q.Disk()[page*api.PageSize : (page+1)*api.PageSize]; !bytes.Equal(got, want) {
		t.Errorf("%s: page %d of the disk: %v, want %v", what, page, got, want)
	}
}

// wantAnswer: the request is told now, with these bytes and tries.
func wantAnswer(t *testing.T, what string, q *elevator.Queue, request, tries int, data ...byte) {
	t.Helper()
	answer, err := q.Poll(request)
	if err != nil || answer.Tries != tries || !bytes.Equal(answer.Data, data) {
		t.Errorf("%s: Poll(%d) = %+v, %v, want %v, %d tries", what, request, answer, err, data, tries)
	}
}

// wantTold: Poll answers this error of the request, and no answer beside it.
func wantTold(t *testing.T, what string, q *elevator.Queue, request int, kind api.Kind, tries int) {
	t.Helper()
	answer, err := q.Poll(request)
	wantOf(t, what, err, kind, request, tries)
	if answer.Data != nil || answer.Tries != 0 {
		t.Errorf("P1: an answer beside an error: %+v", answer)
	}
}

func TestExampleOfOnePage(t *testing.T) {
	q := open(t, 1)
	q.Write(3, pageData)
	reads(t, q, 3)
	wantTold(t, "P4", q, 2, api.ErrPending, 0)
	steps(t, q, "w3+1[1]", "none")
	complete(t, q, 0, false)
	steps(t, q, "r3+1[2]")
	complete(t, q, 0, false)
	wantAnswer(t, "P9", q, 2, 1, pageData...)
	_, err := q.Poll(2)
	wantKind(t, "P4", err, api.ErrRequest)
	wantAnswer(t, "P9", q, 1, 1)
}

func TestExampleOfTheWayUp(t *testing.T) {
	q := open(t, 3)
	reads(t, q, 5, 2, 6, 2, 9)
	steps(t, q, "r2+1[2 4]", "r5+2[1 3]", "r9+1[5]")
	reads(t, q, 11, 1)
	complete(t, q, 0, false)
	complete(t, q, 0, false)
	steps(t, q, "r11+1[6]", "r1+1[7]")
}

func TestNoMoreCommandsThanDepth(t *testing.T) {
	for depth := 1; depth <= api.MaxDepth; depth++ {
		q := open(t, depth)
		for i := range api.MaxDepth + 1 {
			reads(t, q, 2*i)
		}
		for i := range depth {
			steps(t, q, fmt.Sprintf("r%d+1[%d]", 2*i, i+1))
		}
		steps(t, q, "none", "none")
		complete(t, q, depth-1, false)
		steps(t, q, fmt.Sprintf("r%d+1[%d]", 2*depth, depth+1), "none")
	}
}

func TestNoCommandIfNoneIsReady(t *testing.T) {
	q := open(t, 4)
	steps(t, q, "none")
	reads(t, q, 4)
	cancel(t, q, 1)
	steps(t, q, "none")
	writes(t, q, 4, 4)
	steps(t, q, "w4+1[2]", "none")
	complete(t, q, 0, true)
	steps(t, q, "none")
	wantWaiting(t, "P7: they wait, but none is ready", q, 2, 3)
}

func TestHeadOnTheLastPage(t *testing.T) {
	q := open(t, 4)
	reads(t, q, api.Pages-2)
	steps(t, q, "r14+1[1]")
	reads(t, q, 0, 14, 15)
	steps(t, q, "r15+1[4]", "r0+1[2]", "r14+1[3]")
}

func TestHeadBehindTheLastPage(t *testing.T) {
	q := open(t, 4)
	reads(t, q, api.Pages-1)
	steps(t, q, "r15+1[1]")
	reads(t, q, 15, 7, 3)
	steps(t, q, "r3+1[4]", "r7+1[3]", "r15+1[2]")
}

func TestHeadIsBehindTheWholeCommand(t *testing.T) {
	q := open(t, 4)
	reads(t, q, 4, 5, 6)
	steps(t, q, "r4+3[1 2 3]")
	reads(t, q, 6, 8, 7)
	steps(t, q, "r7+2[6 5]", "r6+1[4]")
}

func TestHeadIsBehindOneThatIsAlone(t *testing.T) {
	q := open(t, 4)
	reads(t, q, 4)
	steps(t, q, "r4+1[1]")
	complete(t, q, 0, true)
	q.Tick()
	steps(t, q, "r4+1[1]")
	reads(t, q, 4, 5)
	steps(t, q, "r5+1[3]", "r4+1[2]")
}

func TestOnlyACommandMovesHead(t *testing.T) {
	q := open(t, 1)
	reads(t, q, 4)
	steps(t, q, "r4+1[1]")
	reads(t, q, 8, 1)
	steps(t, q, "none")
	q.Complete(1, false)
	complete(t, q, 0, true)
	q.Cancel(1)
	steps(t, q, "r8+1[2]")
}

func TestCommandsOfMaxVectorPages(t *testing.T) {
	q := open(t, 4)
	writes(t, q, 0, 1, 2, 3, 4, 5)
	steps(t, q, "w0+4[1 2 3 4]", "w4+2[5 6]")
	q = open(t, 4)
	reads(t, q, 12, 11, 10, 9, 8, 7, 6, 5, 4, 3, 3)
	steps(t, q, "r3+4[10 11 9 8 7]", "r7+4[6 5 4 3]", "r11+2[2 1]")
}

func TestCommandAtTheEndOfTheDisk(t *testing.T) {
	q := open(t, 4)
	reads(t, q, 12)
	steps(t, q, "r12+1[1]")
	writes(t, q, 15, 0, 1, 14)
	steps(t, q, "w14+2[5 2]", "w0+2[3 4]")
	complete(t, q, 1, false)
	wantPage(t, "P9", q, 14, 14, 14, 14, 14)
	wantPage(t, "P9", q, 15, 15, 15, 15, 15)
	wantPage(t, "P9: none behind the last page", q, 0, 0, 0, 0, 0)
}

func TestCommandOfMaxVectorPagesAtTheEndOfTheDisk(t *testing.T) {
	q := open(t, 4)
	reads(t, q, 11)
	steps(t, q, "r11+1[1]")
	reads(t, q, 0, 15, 14, 13, 12)
	steps(t, q, "r12+4[6 5 4 3]", "r0+1[2]")
}

func TestAGapEndsACommand(t *testing.T) {
	q := open(t, 4)
	reads(t, q, 1, 2, 4)
	steps(t, q, "r1+2[1 2]", "r4+1[3]")
}

func TestTheOtherKindEndsACommand(t *testing.T) {
	q := open(t, 4)
	reads(t, q, 1)
	writes(t, q, 2)
	reads(t, q, 3)
	steps(t, q, "r1+1[1]", "w2+1[2]", "r3+1[3]")
}

func TestWhatIsNotReadyEndsACommand(t *testing.T) {
	q := open(t, 4)
	writes(t, q, 2, 2)
	steps(t, q, "w2+1[1]")
	writes(t, q, 1, 3)
	steps(t, q, "w3+1[4]", "w1+1[3]")
}

func TestSeveralReadsOfAPageGoTogether(t *testing.T) {
	q := open(t, 4)
	reads(t, q, 6, 5, 6, 5, 6)
	steps(t, q, "r5+2[2 4 1 3 5]", "none")
	complete(t, q, 0, false)
	for request := 1; request <= 5; request++ {
		wantAnswer(t, "P9", q, request, 1, 0, 0, 0, 0)
	}
}

func TestReadsAreNotInEachOthersWay(t *testing.T) {
	q := open(t, 4)
	reads(t, q, 5)
	steps(t, q, "r5+1[1]")
	reads(t, q, 5)
	steps(t, q, "r5+1[2]")
	complete(t, q, 0, true)
	reads(t, q, 5)
	steps(t, q, "r5+1[3]")
}

// The lower number is in the way while it waits, while it is under way, and while it waits again.
func TestInTheWay(t *testing.T) {
	for _, c := range []struct{ first, second bool }{{false, true}, {true, false}, {true, true}} {
		q := open(t, 4)
		for _, write := range []bool{c.first, c.second} {
			if write {
				writes(t, q, 3)
			} else {
				reads(t, q, 3)
			}
		}
		first := show(api.Command{Write: c.first, Page: 3, Count: 1, Requests: []int{1}})
		second := show(api.Command{Write: c.second, Page: 3, Count: 1, Requests: []int{2}})
		steps(t, q, first, "none")
		complete(t, q, 0, true)
		steps(t, q, "none")
		q.Tick()
		steps(t, q, first, "none")
		complete(t, q, 0, false)
		steps(t, q, second)
	}
}

func TestAReadBetweenWritesGoesBetweenThem(t *testing.T) {
	q := open(t, 4)
	writes(t, q, 8)
	reads(t, q, 8, 8)
	q.Write(8, pageData)
	reads(t, q, 8)
	steps(t, q, "w8+1[1]", "none")
	complete(t, q, 0, false)
	steps(t, q, "r8+1[2 3]", "none")
	complete(t, q, 0, false)
	steps(t, q, "w8+1[4]", "none")
	complete(t, q, 0, false)
	steps(t, q, "r8+1[5]", "none")
	complete(t, q, 0, false)
	wantAnswer(t, "P9", q, 2, 1, 8, 8, 8, 8)
	wantAnswer(t, "P9", q, 3, 1, 8, 8, 8, 8)
	wantAnswer(t, "P9", q, 5, 1, pageData...)
}

// A read that waits again holds a write up, though the read behind that write could go with it.
func TestAWriteStaysBehindAllEarlierReads(t *testing.T) {
	q := open(t, 4)
	reads(t, q, 3)
	steps(t, q, "r3+1[1]")
	reads(t, q, 3)
	writes(t, q, 3)
	reads(t, q, 3)
	steps(t, q, "r3+1[2]", "none")
	complete(t, q, 0, true)
	complete(t, q, 0, false)
	steps(t, q, "none")
	q.Tick()
	steps(t, q, "r3+1[1]", "none")
	complete(t, q, 0, false)
	steps(t, q, "w3+1[3]", "none")
}

func TestOtherPagesAreNotInTheWay(t *testing.T) {
	q := open(t, 4)
	writes(t, q, 3)
	steps(t, q, "w3+1[1]")
	writes(t, q, 4, 2)
	steps(t, q, "w4+1[2]", "w2+1[3]")
}

func TestGivenUpWhileItWaitsIsInNobodysWay(t *testing.T) {
	q := open(t, 4)
	writes(t, q, 3, 3)
	reads(t, q, 3)
	cancel(t, q, 1)
	steps(t, q, "w3+1[2]", "none")
	complete(t, q, 0, true)
	cancel(t, q, 2)
	steps(t, q, "r3+1[3]")
	complete(t, q, 0, false)
	wantAnswer(t, "P5: what was given up while it waits writes nothing", q, 3, 1, 0, 0, 0, 0)
	wantTold(t, "P4", q, 1, api.ErrCancelled, 0)
	wantTold(t, "P4", q, 2, api.ErrCancelled, 1)
}

func TestGivenUpUnderWayIsInTheWayTillItsCommandEnds(t *testing.T) {
	for _, fault := range []bool{false, true} {
		for _, told := range []bool{false, true} {
			q := open(t, 4)
			writes(t, q, 3)
			steps(t, q, "w3+1[1]")
			reads(t, q, 3)
			q.Write(3, pageData)
			cancel(t, q, 1)
			if told {
				wantTold(t, "P4", q, 1, api.ErrCancelled, 0)
			}
			steps(t, q, "none")
			wantFlights(t, "P5: its command goes on", q, "w3+1[1]")
			complete(t, q, 0, fault)
			steps(t, q, "r3+1[2]", "none")
			want := []byte{3, 3, 3, 3}
			if fault {
				want = []byte{0, 0, 0, 0}
			}
			wantPage(t, "P5, P9", q, 3, want...)
			if !told {
				wantOf(t, "P5", q.Cancel(1), api.ErrAnswered, 1, 1)
				wantTold(t, "P4, P9", q, 1, api.ErrCancelled, 1)
			}
			_, err := q.Poll(1)
			wantKind(t, "P4: it is told", err, api.ErrRequest)
			wantWaiting(t, "P9: what was given up waits never again", q, 3)
		}
	}
}

func TestAReadGivenUpUnderWayIsInAWritesWay(t *testing.T) {
	q := open(t, 4)
	reads(t, q, 3, 3)
	steps(t, q, "r3+1[1 2]")
	writes(t, q, 3)
	cancel(t, q, 1)
	wantTold(t, "P4", q, 1, api.ErrCancelled, 0)
	cancel(t, q, 2)
	steps(t, q, "none")
	complete(t, q, 0, false)
	wantTold(t, "P4: given up, though its command ended well", q, 2, api.ErrCancelled, 1)
	steps(t, q, "w3+1[3]")
}

func TestOneThatIsAloneGoesAlone(t *testing.T) {
	q := open(t, 4)
	reads(t, q, 7, 8, 9)
	steps(t, q, "r7+3[1 2 3]")
	complete(t, q, 0, true)
	steps(t, q, "none")
	q.Tick()
	steps(t, q, "r7+1[1]", "r8+1[2]", "r9+1[3]")
}

func TestOneThatIsAloneStaysAlone(t *testing.T) {
	q := open(t, 4)
	reads(t, q, 7)
	steps(t, q, "r7+1[1]")
	complete(t, q, 0, true)
	q.Tick()
	steps(t, q, "r7+1[1]")
	complete(t, q, 0, true)
	ticks(q, 2)
	reads(t, q, 7, 8)
	steps(t, q, "r8+1[3]", "r7+1[1]", "r7+1[2]")
}

func TestOneThatIsAloneIsNotTakenAlong(t *testing.T) {
	q := open(t, 4)
	reads(t, q, 8, 7)
	steps(t, q, "r7+2[2 1]")
	complete(t, q, 0, true)
	q.Tick()
	cancel(t, q, 2)
	reads(t, q, 6, 7, 8, 9)
	// Page 8 has a read beside the one that is alone: the command goes on over it.
	steps(t, q, "r9+1[6]", "r6+3[3 4 5]", "r8+1[1]")
}

func TestAPageWithOnlyOneThatIsAloneEndsACommand(t *testing.T) {
	q := open(t, 4)
	writes(t, q, 8)
	steps(t, q, "w8+1[1]")
	complete(t, q, 0, true)
	q.Tick()
	writes(t, q, 7, 9)
	steps(t, q, "w9+1[3]", "w7+1[2]", "w8+1[1]")
}

// Of a page's ready requests the lowest number is the first, alone or not.
func TestTheLowestNumberIsTheFirst(t *testing.T) {
	q := open(t, 4)
	reads(t, q, 5, 5)
	steps(t, q, "r5+1[1 2]")
	reads(t, q, 5, 6)
	steps(t, q, "r6+1[4]")
	complete(t, q, 0, true)
	q.Tick()
	steps(t, q, "r5+1[1]", "r5+1[2]", "r5+1[3]", "none")
}

func TestFlightsStandAsTheyWereSent(t *testing.T) {
	q := open(t, 3)
	wantFlights(t, "P8: at the beginning", q)
	writes(t, q, 8, 4)
	reads(t, q, 12)
	steps(t, q, "w4+1[2]", "w8+1[1]", "r12+1[3]")
	wantFlights(t, "P8", q, "w4+1[2]", "w8+1[1]", "r12+1[3]")
	wantWaiting(t, "P8: what is under way waits no longer", q)
	complete(t, q, 1, false)
	wantFlights(t, "P9", q, "w4+1[2]", "r12+1[3]")
	reads(t, q, 0)
	steps(t, q, "r0+1[4]")
	wantFlights(t, "P8", q, "w4+1[2]", "r12+1[3]", "r0+1[4]")
	complete(t, q, 0, true)
	complete(t, q, 1, false)
	wantFlights(t, "P9", q, "r12+1[3]")
	complete(t, q, 0, false)
	wantFlights(t, "P9", q)
}

func TestCommandsAreTheCallers(t *testing.T) {
	q := open(t, 2)
	reads(t, q, 1, 2, 2, 5)
	spoil := func(c api.Command) {
		all := c.Requests[:cap(c.Requests)]
		for i := range all {
			all[i] = -9
		}
	}
	for range 2 {
		c, _ := q.Step()
		spoil(c)
	}
	flights := q.Flights()
	spoil(flights[0])
	if show(flights[1]) != "r5+1[4]" {
		t.Errorf("P1: two lists of one answer share memory: %s", show(flights[1]))
	}
	for i := range flights[:cap(flights)] {
		flights[:cap(flights)][i] = api.Command{}
	}
	wantFlights(t, "P1: behind what the caller wrote", q, "r1+2[1 2 3]", "r5+1[4]")
	complete(t, q, 0, false)
	wantAnswer(t, "P9", q, 3, 1, 0, 0, 0, 0)
}

func TestDataIsTheQueuesOwn(t *testing.T) {
	q := open(t, 1)
	room := []byte{1, 2, 3, 4, 5, 6}
	q.Write(9, room[:api.PageSize])
	clear(room)
	steps(t, q, "w9+1[1]")
	complete(t, q, 0, false)
	wantPage(t, "P1: behind what the caller wrote", q, 9, 1, 2, 3, 4)
	reads(t, q, 9, 9)
	steps(t, q, "r9+1[2 3]")
	complete(t, q, 0, false)
	answer, _ := q.Poll(2)
	clear(answer.Data[:cap(answer.Data)])
	wantPage(t, "P1: behind what the caller wrote", q, 9, 1, 2, 3, 4)
	wantAnswer(t, "P1: behind what the caller wrote", q, 3, 1, 1, 2, 3, 4)
}

func TestCompleteWritesEachPageItsData(t *testing.T) {
	q := open(t, 1)
	var want []byte
	for page := range api.Pages {
		data := []byte{byte(page), byte(page + 50), byte(page + 100), byte(page + 150)}
		q.Write(page, data)
		want = append(want, data...)
	}
	for range api.Pages / api.MaxVector {
		if q.Step(); len(q.Flights()) != 1 {
			t.Fatalf("P8: Flights() = %v", q.Flights())
		}
		complete(t, q, 0, false)
	}
	if disk := q.Disk(); !bytes.Equal(disk, want) {
		t.Errorf("P6, P9: Disk() = %v, want %v", disk, want)
	}
}

func TestNothingIsWrittenBeforeItsCommandEnds(t *testing.T) {
	q := open(t, 2)
	writes(t, q, 3, 5)
	steps(t, q, "w3+1[1]", "w5+1[2]")
	wantPage(t, "P8: a command that is sent", q, 3, 0, 0, 0, 0)
	complete(t, q, 1, false)
	wantPage(t, "P9: the other command", q, 3, 0, 0, 0, 0)
	wantPage(t, "P9: this command", q, 5, 5, 5, 5, 5)
	wantTold(t, "P4", q, 1, api.ErrPending, 0)
	wantAnswer(t, "P4", q, 2, 1)
}

func TestAReadKeepsWhatItGot(t *testing.T) {
	q := open(t, 1)
	writes(t, q, 3)
	reads(t, q, 3)
	q.Write(3, pageData)
	for range 3 {
		q.Step()
		complete(t, q, 0, false)
	}
	wantPage(t, "P9", q, 3, pageData...)
	wantAnswer(t, "P9: what the page had then", q, 2, 1, 3, 3, 3, 3)
}

func TestAFaultLeavesTheDisk(t *testing.T) {
	q := open(t, 1)
	writes(t, q, 3, 4)
	steps(t, q, "w3+2[1 2]")
	complete(t, q, 0, true)
	if !bytes.Equal(q.Disk(), make([]byte, api.Pages*api.PageSize)) {
		t.Errorf("P9: a command with a fault has written: %v", q.Disk())
	}
	wantWaiting(t, "P9: they wait again", q, 1, 2)
	q.Tick()
	steps(t, q, "w3+1[1]")
	complete(t, q, 0, false)
	wantPage(t, "P9: the second try", q, 3, 3, 3, 3, 3)
	wantAnswer(t, "P9", q, 1, 2)
}

func TestTriesTillTheLast(t *testing.T) {
	q := open(t, 1)
	ticks(q, 100)
	reads(t, q, 7)
	for i, wait := range []int{1, 2, 4} {
		steps(t, q, "r7+1[1]")
		wantTold(t, "P4: under way", q, 1, api.ErrPending, i)
		complete(t, q, 0, true)
		for range wait {
			steps(t, q, "none")
			wantTold(t, "P9: it waits again", q, 1, api.ErrPending, i+1)
			wantWaiting(t, "P9: it waits again", q, 1)
			q.Tick()
		}
	}
	steps(t, q, "r7+1[1]")
	complete(t, q, 0, true)
	wantWaiting(t, "P9: it has failed", q)
	ticks(q, 2*api.MaxWait)
	steps(t, q, "none")
	wantOf(t, "P5: Cancel of what failed", q.Cancel(1), api.ErrAnswered, 1, api.MaxTries)
	wantTold(t, "P9", q, 1, api.ErrIO, api.MaxTries)
	_, err := q.Poll(1)
	wantKind(t, "P4: told a second time", err, api.ErrRequest)
}

func TestTheLastTryMaySucceed(t *testing.T) {
	q := open(t, 1)
	writes(t, q, 7)
	for range api.MaxTries - 1 {
		steps(t, q, "w7+1[1]")
		complete(t, q, 0, true)
		ticks(q, api.MaxWait)
	}
	wantPage(t, "P9: three faults", q, 7, 0, 0, 0, 0)
	steps(t, q, "w7+1[1]")
	complete(t, q, 0, false)
	wantPage(t, "P9: the last try", q, 7, 7, 7, 7, 7)
	wantAnswer(t, "P9", q, 1, api.MaxTries)
}

func TestWhatFailedIsInNobodysWay(t *testing.T) {
	q := open(t, 1)
	writes(t, q, 7)
	reads(t, q, 7)
	for range api.MaxTries {
		steps(t, q, "w7+1[1]")
		complete(t, q, 0, true)
		ticks(q, api.MaxWait)
	}
	steps(t, q, "r7+1[2]")
	complete(t, q, 0, false)
	wantAnswer(t, "P9: what failed has written nothing", q, 2, 1, 0, 0, 0, 0)
}

func TestGivenUpInItsLastTry(t *testing.T) {
	q := open(t, 1)
	reads(t, q, 7)
	for range api.MaxTries {
		ticks(q, api.MaxWait)
		steps(t, q, "r7+1[1]")
		if q.Now() == api.MaxTries*api.MaxWait {
			cancel(t, q, 1)
		}
		complete(t, q, 0, true)
	}
	wantTold(t, "P4, P9: given up, not failed", q, 1, api.ErrCancelled, api.MaxTries)
}

func TestGivenUpWhileItWaitsAgain(t *testing.T) {
	q := open(t, 1)
	reads(t, q, 7)
	steps(t, q, "r7+1[1]")
	complete(t, q, 0, true)
	cancel(t, q, 1)
	q.Tick()
	steps(t, q, "none")
	wantOf(t, "P5: given up before", q.Cancel(1), api.ErrAnswered, 1, 1)
	wantTold(t, "P4", q, 1, api.ErrCancelled, 1)
}

func TestTimesAreCountedFromTheFault(t *testing.T) {
	q := open(t, 2)
	reads(t, q, 2, 9)
	steps(t, q, "r2+1[1]", "r9+1[2]")
	ticks(q, 5)
	complete(t, q, 0, true)
	steps(t, q, "none")
	q.Tick()
	steps(t, q, "r2+1[1]")
	complete(t, q, 1, true)
	steps(t, q, "none")
	q.Tick()
	steps(t, q, "none")
	q.Tick()
	steps(t, q, "r2+1[1]")
	wantFlights(t, "P9", q, "r9+1[2]", "r2+1[1]")
}

func TestANewRequestsTimeHasCome(t *testing.T) {
	q := open(t, 1)
	ticks(q, 3)
	reads(t, q, 4)
	steps(t, q, "r4+1[1]")
}

func TestPollAndCancelOfWhatIsUnderWay(t *testing.T) {
	q := open(t, 1)
	writes(t, q, 3, 4)
	steps(t, q, "w3+2[1 2]")
	wantWaiting(t, "P6: under way", q)
	for range 2 {
		wantTold(t, "P4: under way", q, 1, api.ErrPending, 0)
	}
	cancel(t, q, 1)
	wantOf(t, "P5: given up before", q.Cancel(1), api.ErrAnswered, 1, 0)
	wantTold(t, "P4: its neighbour is not given up", q, 2, api.ErrPending, 0)
	wantTold(t, "P4: given up under way", q, 1, api.ErrCancelled, 0)
	wantKind(t, "P5: told", q.Cancel(1), api.ErrRequest)
	wantFlights(t, "P5: its command goes on, and for it", q, "w3+2[1 2]")
	complete(t, q, 0, false)
	wantPage(t, "P5: it writes what it would have written", q, 3, 3, 3, 3, 3)
	wantAnswer(t, "P9", q, 2, 1)
}

func TestPollAndCancelOfWhatIsDone(t *testing.T) {
	q := open(t, 1)
	reads(t, q, 3)
	writes(t, q, 3)
	for request := 1; request <= 2; request++ {
		q.Step()
		complete(t, q, 0, false)
		wantOf(t, "P5: done", q.Cancel(request), api.ErrAnswered, request, 1)
	}
	wantAnswer(t, "P4: a read", q, 1, 1, 0, 0, 0, 0)
	wantAnswer(t, "P4: a write", q, 2, 1)
	for request := 1; request <= 2; request++ {
		_, err := q.Poll(request)
		wantKind(t, "P4: told a second time", err, api.ErrRequest)
		wantKind(t, "P5: told", q.Cancel(request), api.ErrRequest)
	}
}

func TestFullOfWhatIsNotTold(t *testing.T) {
	q := open(t, 1)
	for range api.MaxRequests {
		reads(t, q, 0)
	}
	q.Step()
	_, err := q.Read(1)
	wantKind(t, "P3: all are under way", err, api.ErrFull)
	cancel(t, q, 1)
	wantTold(t, "P4", q, 1, api.ErrCancelled, 0)
	reads(t, q, 1)
	complete(t, q, 0, false)
	_, err = q.Read(1)
	wantKind(t, "P3: most are done", err, api.ErrFull)
	wantAnswer(t, "P4", q, 2, 1, 0, 0, 0, 0)
	reads(t, q, 1)
}

func TestCompleteRefusesWhatIsNoPlace(t *testing.T) {
	q := open(t, 2)
	wantKind(t, "P9: none under way", q.Complete(0, false), api.ErrCommand)
	writes(t, q, 3, 5, 7)
	steps(t, q, "w3+1[1]", "w5+1[2]")
	for _, k := range []int{-1, 2, 3, math.MaxInt, math.MinInt, 1 << 32, -1 << 32} {
		for _, fault := range []bool{false, true} {
			wantKind(t, "P9: no such place", q.Complete(k, fault), api.ErrCommand)
		}
	}
	wantFlights(t, "P1: behind errors", q, "w3+1[1]", "w5+1[2]")
	wantWaiting(t, "P1: behind errors", q, 3)
	wantTold(t, "P1: no try more", q, 1, api.ErrPending, 0)
	if e := plain.Complete(q, 2, false); e != (plain.Error{Kind: api.ErrCommand, Request: -1, Same: true}) {
		t.Errorf("P9: in plain data: %+v", e)
	}
	complete(t, q, 1, false)
	wantKind(t, "P9: no longer a place", q.Complete(1, false), api.ErrCommand)
	complete(t, q, 0, false)
	wantKind(t, "P9: none under way", q.Complete(0, false), api.ErrCommand)
}

func TestCommandsOfOneQueueAreNotTheOthers(t *testing.T) {
	a, b := open(t, 1), open(t, 1)
	writes(t, a, 3)
	reads(t, b, 2)
	steps(t, a, "w3+1[1]")
	steps(t, b, "r2+1[1]")
	complete(t, a, 0, false)
	wantFlights(t, "P1: the other queue", b, "r2+1[1]")
	wantPage(t, "P1: the other queue", b, 3, 0, 0, 0, 0)
	reads(t, b, 1)
	complete(t, b, 0, false)
	steps(t, b, "r1+1[2]")
}
