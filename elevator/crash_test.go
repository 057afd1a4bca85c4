package elevator_test

import (
	"bytes"
	"slices"
	"testing"

	"elevator/api"
	"elevator/elevator"
)

// atSea has writes under way in three commands, in this order: pages 9 and 10, 14, 1 to 3; and a read between them. Each page is to get its own number.
func atSea(t *testing.T) *elevator.Queue {
	t.Helper()
	q := open(t, 4)
	reads(t, q, 7)
	steps(t, q, "r7+1[1]")
	complete(t, q, 0, false)
	writes(t, q, 10, 14, 9, 3, 1, 2)
	reads(t, q, 12)
	steps(t, q, "w9+2[4 2]", "r12+1[8]", "w14+1[3]", "w1+3[6 7 5]")
	return q
}

// seaPages are the pages of atSea's writes, as kept goes through them.
var seaPages = []int{9, 10, 14, 1, 2, 3}

// wantDisk: these pages have their own numbers, all others noughts.
func wantDisk(t *testing.T, what string, q *elevator.Queue, pages ...int) {
	t.Helper()
	want := make([]byte, api.Pages*api.PageSize)
	for _, page := range pages {
		for i := range api.PageSize {
			want[page*api.PageSize+i] = byte(page)
		}
	}
	if disk := q.Disk(); !bytes.Equal(disk, want) {
		t.Errorf("%s: Disk() = %v, want the pages %v", what, disk, pages)
	}
}

// wantNothing: there are no commands and no requests, of the numbers up to last.
func wantNothing(t *testing.T, q *elevator.Queue, last int) {
	t.Helper()
	wantWaiting(t, "P11: behind a crash", q)
	wantFlights(t, "P11: behind a crash", q)
	wantKind(t, "P11: Complete", q.Complete(0, false), api.ErrCommand)
	for request := range last + 2 {
		_, err := q.Poll(request)
		wantKind(t, "P11: Poll", err, api.ErrRequest)
		wantKind(t, "P11: Cancel", q.Cancel(request), api.ErrRequest)
	}
}

func TestCrashOfANewQueue(t *testing.T) {
	for _, kept := range [][]bool{nil, {}, {true}, faulty(100)} {
		q := open(t, 1)
		q.Crash(kept)
		wantNothing(t, q, 0)
		wantDisk(t, "P11", q)
		if n, err := q.Read(3); n != 1 || err != nil || q.Now() != 0 {
			t.Errorf("P11: request %d, %v, time %d", n, err, q.Now())
		}
		steps(t, q, "r3+1[1]")
	}
}

func TestCrashKeepsWhatItIsTold(t *testing.T) {
	for pattern := range 1 << len(seaPages) {
		q := atSea(t)
		var kept []bool
		var pages []int
		for i, page := range seaPages {
			kept = append(kept, pattern>>i&1 == 1)
			if kept[i] {
				pages = append(pages, page)
			}
		}
		q.Crash(kept)
		wantDisk(t, "P11", q, pages...)
		wantNothing(t, q, 8)
	}
}

func TestCrashWithFewerAndMoreThanItsWrites(t *testing.T) {
	for n := range 2 * len(seaPages) {
		q := atSea(t)
		q.Crash(faulty(n))
		wantDisk(t, "P11", q, seaPages[:min(n, len(seaPages))]...)
	}
	q := atSea(t)
	q.Crash(nil)
	wantDisk(t, "P11: none is kept", q)
}

func TestCrashGoesByTheOrderOfFlights(t *testing.T) {
	q := open(t, 3)
	writes(t, q, 4, 8, 12)
	steps(t, q, "w4+1[1]", "w8+1[2]", "w12+1[3]")
	complete(t, q, 1, true)
	q.Tick()
	steps(t, q, "w8+1[2]")
	wantFlights(t, "P8", q, "w4+1[1]", "w12+1[3]", "w8+1[2]")
	q.Crash([]bool{false, true, false})
	wantDisk(t, "P11", q, 12)
}

func TestReadsUnderWayTakeNothingOfKept(t *testing.T) {
	q := open(t, 4)
	reads(t, q, 0, 1, 1, 2)
	writes(t, q, 4)
	reads(t, q, 6)
	writes(t, q, 8)
	steps(t, q, "r0+3[1 2 3 4]", "w4+1[5]", "r6+1[6]", "w8+1[7]")
	q.Crash([]bool{false, true})
	wantDisk(t, "P11", q, 8)
	q = open(t, 1)
	reads(t, q, 0, 1)
	steps(t, q, "r0+2[1 2]")
	q.Crash(faulty(9))
	wantDisk(t, "P11: reads write nothing", q)
	wantNothing(t, q, 2)
}

func TestCrashWithWritesGivenUpUnderWay(t *testing.T) {
	for _, kept := range [][]bool{{true, false, true}, {false, true, false}, faulty(3)} {
		q := open(t, 2)
		writes(t, q, 5, 6, 9)
		steps(t, q, "w5+2[1 2]", "w9+1[3]")
		cancel(t, q, 1)
		cancel(t, q, 3)
		wantTold(t, "P4", q, 3, api.ErrCancelled, 0)
		q.Crash(kept)
		var pages []int
		for i, page := range []int{5, 6, 9} {
			if kept[i] {
				pages = append(pages, page)
			}
		}
		wantDisk(t, "P11: they are under way all the same", q, pages...)
		wantNothing(t, q, 3)
	}
}

func TestCrashWritesOnlyWhatIsUnderWay(t *testing.T) {
	q := open(t, 1)
	writes(t, q, 3)
	q.Drive(nil)
	q.Write(3, pageData)
	writes(t, q, 5)
	steps(t, q, "w5+1[3]")
	complete(t, q, 0, true)
	writes(t, q, 7, 9)
	cancel(t, q, 4)
	steps(t, q, "w9+1[5]")
	q.Crash(faulty(9))
	// 3 was written before, and its new data waits; so does 5 again; 7 was given up.
	wantDisk(t, "P11", q, 3, 9)
	wantNothing(t, q, 5)
}

func TestCrashWritesOverWhatWasThere(t *testing.T) {
	for _, keep := range []bool{false, true} {
		q := open(t, 1)
		writes(t, q, 3)
		drive(t, q, nil, 1, 0)
		q.Write(3, pageData)
		steps(t, q, "w3+1[2]")
		q.Crash([]bool{keep})
		want := []byte{3, 3, 3, 3}
		if keep {
			want = pageData
		}
		wantPage(t, "P11", q, 3, want...)
		reads(t, q, 3)
		drive(t, q, nil, 1, 0)
		wantAnswer(t, "P11: a read behind the crash", q, 3, 1, want...)
	}
}

func TestWhatIsNotToldIsNoneBehindACrash(t *testing.T) {
	q := open(t, 1)
	reads(t, q, 2)
	drive(t, q, nil, 1, 0)
	writes(t, q, 2)
	drive(t, q, faulty(4), 4, 7)
	reads(t, q, 2, 3, 9)
	cancel(t, q, 4)
	steps(t, q, "r9+1[5]")
	// One is done, one has failed, one waits, one was given up, one is under way.
	q.Crash(nil)
	wantNothing(t, q, 5)
	drive(t, q, faulty(9), 0, 7)
}

func TestNumbersGoOnBehindACrash(t *testing.T) {
	q := open(t, 2)
	fill(t, q)
	q.Crash(nil)
	for i := 1; i <= api.MaxRequests; i++ {
		if n, err := q.Read(0); n != api.MaxRequests+i || err != nil {
			t.Fatalf("P11: request %d: %d, %v", api.MaxRequests+i, n, err)
		}
	}
	_, err := q.Read(0)
	wantKind(t, "P3: full again", err, api.ErrFull)
	_, err = q.Poll(1)
	wantKind(t, "P11: a number of before", err, api.ErrRequest)
	q.Crash(nil)
	q.Crash(nil)
	if n, err := q.Write(0, pageData); n != 2*api.MaxRequests+1 || err != nil {
		t.Errorf("P11: %d, %v", n, err)
	}
}

func TestTimeStaysBehindACrash(t *testing.T) {
	q := open(t, 1)
	ticks(q, 6)
	q.Crash(nil)
	if q.Now() != 6 {
		t.Errorf("P11: the time is %d, want 6", q.Now())
	}
	reads(t, q, 5)
	steps(t, q, "r5+1[1]")
	complete(t, q, 0, true)
	steps(t, q, "none")
	q.Tick()
	steps(t, q, "r5+1[1]")
}

func TestHeadIsNoughtBehindACrash(t *testing.T) {
	q := atSea(t)
	drive(t, q, nil, 4, 0)
	reads(t, q, 8)
	steps(t, q, "r8+1[9]")
	complete(t, q, 0, false)
	q.Crash(nil)
	reads(t, q, 9, 0, 15)
	steps(t, q, "r0+1[11]", "r9+1[10]", "r15+1[12]")
	q.Crash(nil)
	reads(t, q, 1, 14)
	steps(t, q, "r1+1[13]", "r14+1[14]")
}

func TestDepthStaysBehindACrash(t *testing.T) {
	for depth := 1; depth <= api.MaxDepth; depth++ {
		q := open(t, depth)
		for range 2 {
			reads(t, q, 0, 2, 4, 6, 8, 10)
			for range depth {
				if _, ok := q.Step(); !ok {
					t.Fatalf("P11: depth %d: Flights() = %v", depth, q.Flights())
				}
			}
			steps(t, q, "none")
			q.Crash(nil)
		}
	}
}

func TestNothingOfBeforeIsInTheWayBehindACrash(t *testing.T) {
	q := open(t, 4)
	writes(t, q, 3, 5)
	steps(t, q, "w3+1[1]", "w5+1[2]")
	complete(t, q, 1, true)
	cancel(t, q, 1)
	wantTold(t, "P4", q, 1, api.ErrCancelled, 0)
	q.Crash(nil)
	writes(t, q, 3, 4, 5)
	steps(t, q, "w3+3[3 4 5]")
	complete(t, q, 0, false)
	wantDisk(t, "P11", q, 3, 4, 5)
	wantAnswer(t, "P11: tries begin anew", q, 5, 1)
}

func TestASecondCrashWritesNothing(t *testing.T) {
	q := atSea(t)
	q.Crash([]bool{true})
	q.Crash(faulty(9))
	wantDisk(t, "P11", q, seaPages[0])
}

func TestCrashOnlyReadsWhatItIsTold(t *testing.T) {
	q := atSea(t)
	room := []bool{true, false, true, true, true, true, true}
	q.Crash(room[:2])
	if !slices.Equal(room, []bool{true, false, true, true, true, true, true}) {
		t.Errorf("P1: Crash changed what it was handed: %v", room)
	}
	wantDisk(t, "P11: nothing is read behind the list", q, seaPages[0])
}

func TestACrashOfOneQueueIsNotTheOthers(t *testing.T) {
	a, b := atSea(t), atSea(t)
	a.Crash(faulty(9))
	wantDisk(t, "P1: the other queue", b)
	wantFlights(t, "P1: the other queue", b, "w9+2[4 2]", "r12+1[8]", "w14+1[3]", "w1+3[6 7 5]")
	wantAnswer(t, "P1: the other queue", b, 1, 1, 0, 0, 0, 0)
	drive(t, b, nil, 4, 0)
	wantDisk(t, "P10", b, seaPages...)
}
