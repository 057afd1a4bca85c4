package elevator_test

import (
	"fmt"
	"runtime"
	"slices"
	"sync"
	"testing"
	"time"

	"elevator/api"
	"elevator/elevator"
)

// drive: so many commands are completed, that is the time then, and nothing is left to be done.
func drive(t *testing.T, q *elevator.Queue, faults []bool, commands, now int) {
	t.Helper()
	if n := q.Drive(faults); n != commands || q.Now() != now {
		t.Errorf("P10: Drive(%v) = %d, the time is %d, want %d and %d", faults, n, q.Now(), commands, now)
	}
	wantWaiting(t, "P10: behind Drive", q)
	wantFlights(t, "P10: behind Drive", q)
}

// faulty is a list of so many faults.
func faulty(n int) []bool { return slices.Repeat([]bool{true}, n) }

func TestDriveWithNothingToBeDone(t *testing.T) {
	for depth := 1; depth <= api.MaxDepth; depth++ {
		q := open(t, depth)
		q.Tick()
		drive(t, q, nil, 0, 1)
		drive(t, q, []bool{}, 0, 1)
		drive(t, q, faulty(9), 0, 1)
		reads(t, q, 3)
		steps(t, q, "r3+1[1]")
	}
}

func TestDriveLeavesWhatIsAnsweredAsItIs(t *testing.T) {
	q := open(t, 1)
	writes(t, q, 3, 9)
	drive(t, q, []bool{false, true, true, true, true}, 5, 7)
	reads(t, q, 4)
	cancel(t, q, 3)
	drive(t, q, faulty(9), 0, 7)
	wantPage(t, "P10: the disk", q, 3, 3, 3, 3, 3)
	wantAnswer(t, "P10: done", q, 1, 1)
	wantTold(t, "P10: failed", q, 2, api.ErrIO, api.MaxTries)
	wantTold(t, "P10: given up", q, 3, api.ErrCancelled, 0)
}

func TestDriveDoesEachPageInOrder(t *testing.T) {
	for depth := 1; depth <= api.MaxDepth; depth++ {
		for _, faults := range [][]bool{nil, faulty(1), {false, true}, {true, false, true}, faulty(3)} {
			q := open(t, depth)
			reads(t, q, 5)
			writes(t, q, 5)
			reads(t, q, 5, 5)
			q.Write(5, pageData)
			reads(t, q, 5)
			q.Drive(faults)
			tries, fewest := 0, 6
			for _, fault := range faults {
				if fault {
					fewest++
				}
			}
			for i, want := range [][]byte{{0, 0, 0, 0}, nil, {5, 5, 5, 5}, {5, 5, 5, 5}, nil, pageData} {
				answer, err := q.Poll(i + 1)
				if err != nil || !slices.Equal(answer.Data, want) {
					t.Errorf("P10: depth %d, faults %v: Poll(%d) = %v, %v, want %v", depth, faults, i+1, answer.Data, err, want)
				}
				tries += answer.Tries
			}
			if tries < fewest {
				t.Errorf("P10: depth %d, faults %v: %d tries in all, want %d or more", depth, faults, tries, fewest)
			}
			wantPage(t, "P10", q, 5, pageData...)
		}
	}
}

func TestDriveOfAFullQueue(t *testing.T) {
	for depth := 1; depth <= api.MaxDepth; depth++ {
		q := open(t, depth)
		fill(t, q)
		if n := q.Drive(faulty(7)); n < 7 || q.Now() == 0 {
			t.Errorf("P10: depth %d: %d commands, time %d", depth, n, q.Now())
		}
		_, err := q.Read(0)
		wantKind(t, "P10: Drive tells nothing", err, api.ErrFull)
		for request := 1; request <= api.MaxRequests; request++ {
			if _, err := q.Poll(request); err != nil {
				t.Errorf("P10: depth %d: Poll(%d): %v", depth, request, err)
			}
		}
		reads(t, q, 0)
	}
}

func TestDriveCountsCommandsNotRequests(t *testing.T) {
	q := open(t, 1)
	writes(t, q, 0, 1, 2, 3, 4, 5)
	reads(t, q, 9, 9, 9, 12)
	drive(t, q, nil, 4, 0)
	q = open(t, 1)
	writes(t, q, 0, 1, 2, 3)
	// The command of four pages ends with a fault, and each goes alone then.
	drive(t, q, faulty(1), 5, 1)
	for request := 1; request <= 4; request++ {
		wantAnswer(t, "P10", q, request, 2)
	}
}

func TestDriveCompletesWhatWasSentFirst(t *testing.T) {
	q := open(t, 4)
	reads(t, q, 8)
	steps(t, q, "r8+1[1]")
	writes(t, q, 4, 12)
	drive(t, q, []bool{true, false, false}, 4, 1)
	wantAnswer(t, "P10: sent first, by the caller", q, 1, 2, 0, 0, 0, 0)
	wantAnswer(t, "P10: sent later", q, 2, 1)
	wantAnswer(t, "P10: sent later", q, 3, 1)
	q = open(t, 4)
	reads(t, q, 8)
	steps(t, q, "r8+1[1]")
	writes(t, q, 4, 12)
	// From head on, 12 is sent ahead of 4.
	drive(t, q, []bool{false, true}, 4, 1)
	wantAnswer(t, "P10", q, 1, 1, 0, 0, 0, 0)
	wantAnswer(t, "P10", q, 2, 1)
	wantAnswer(t, "P10", q, 3, 2)
}

func TestDriveWithCommandsUnderWay(t *testing.T) {
	q := open(t, 3)
	writes(t, q, 2, 6, 10)
	steps(t, q, "w2+1[1]", "w6+1[2]", "w10+1[3]")
	complete(t, q, 0, false)
	drive(t, q, faulty(1), 3, 1)
	wantPage(t, "P10", q, 6, 6, 6, 6, 6)
	wantPage(t, "P10", q, 10, 10, 10, 10, 10)
	wantAnswer(t, "P10: ended by the caller", q, 1, 1)
	wantAnswer(t, "P10: the first under way", q, 2, 2)
	wantAnswer(t, "P10: the second", q, 3, 1)
}

// Behind each command that ends there is room for another one, ahead of the next end.
func TestDriveSendsAheadOfEachEnd(t *testing.T) {
	for depth, commands := range map[int]int{1: 3, 2: 4, 4: 4} {
		q := open(t, depth)
		writes(t, q, 0)
		reads(t, q, 1)
		writes(t, q, 0, 1)
		// With a depth of 1 both writes are ready when head comes round, and go together.
		drive(t, q, nil, commands, 0)
	}
}

func TestDriveSendsAsManyAsThereMayBe(t *testing.T) {
	for depth := 1; depth <= api.MaxDepth; depth++ {
		q := open(t, depth)
		reads(t, q, 0, 2, 4, 6)
		// All that is under way fails at time 0, one behind the other.
		drive(t, q, faulty(4), 8, 1)
		for request := 1; request <= 4; request++ {
			wantAnswer(t, "P10", q, request, 2, 0, 0, 0, 0)
		}
	}
}

func TestDriveTicksOnlyIfNoneIsUnderWay(t *testing.T) {
	q := open(t, 2)
	reads(t, q, 0, 8)
	// Both fail at time 0: if there were a tick between, the second would wait till 2.
	drive(t, q, faulty(2), 4, 1)
	q = open(t, 1)
	reads(t, q, 3)
	writes(t, q, 9)
	// 9 needs no tick, and goes ahead of the second try of 3.
	drive(t, q, []bool{true, true, false, true}, 5, 3)
	wantAnswer(t, "P10", q, 1, 2, 0, 0, 0, 0)
	wantAnswer(t, "P10", q, 2, 3)
}

func TestDriveOfRequestsThatWaitForTheirTime(t *testing.T) {
	q := open(t, 1)
	ticks(q, 5)
	reads(t, q, 7)
	steps(t, q, "r7+1[1]")
	complete(t, q, 0, true)
	drive(t, q, nil, 1, 6)
	wantAnswer(t, "P10", q, 1, 2, 0, 0, 0, 0)
	reads(t, q, 7)
	for range 2 {
		steps(t, q, "r7+1[2]")
		complete(t, q, 0, true)
		ticks(q, 1)
	}
	// The second fault was at 7: its time is 9.
	drive(t, q, nil, 1, 9)
	wantAnswer(t, "P10", q, 2, 3, 0, 0, 0, 0)
}

func TestDriveOfWhatFailsMaxTriesTimes(t *testing.T) {
	for n, now := range []int{0, 1, 3, 7} {
		q := open(t, 1)
		writes(t, q, 7)
		drive(t, q, faulty(n), n+1, now)
		wantPage(t, "P10", q, 7, 7, 7, 7, 7)
		wantAnswer(t, "P10", q, 1, n+1)
	}
	for n := api.MaxTries; n <= api.MaxTries+2; n++ {
		q := open(t, 1)
		writes(t, q, 7)
		drive(t, q, faulty(n), api.MaxTries, 7)
		wantPage(t, "P10: all its tries failed", q, 7, 0, 0, 0, 0)
		wantTold(t, "P10", q, 1, api.ErrIO, api.MaxTries)
	}
}

func TestDriveGoesOnBehindWhatFails(t *testing.T) {
	q := open(t, 4)
	writes(t, q, 7)
	reads(t, q, 7)
	drive(t, q, faulty(api.MaxTries+1), api.MaxTries+2, 8)
	wantTold(t, "P10", q, 1, api.ErrIO, api.MaxTries)
	wantAnswer(t, "P10", q, 2, 2, 0, 0, 0, 0)
}

func TestDriveWhereEveryCommandFails(t *testing.T) {
	q := open(t, api.MaxDepth)
	fill(t, q)
	q.Drive(faulty(1000))
	for request := 1; request <= api.MaxRequests; request++ {
		wantTold(t, "P10", q, request, api.ErrIO, api.MaxTries)
	}
	if !slices.Equal(q.Disk(), make([]byte, api.Pages*api.PageSize)) {
		t.Errorf("P10: Disk() = %v, want noughts", q.Disk())
	}
}

func TestDriveOfWhatWasGivenUpWhileItWaits(t *testing.T) {
	q := open(t, 1)
	writes(t, q, 2, 2)
	cancel(t, q, 2)
	writes(t, q, 9)
	cancel(t, q, 3)
	drive(t, q, nil, 1, 0)
	wantPage(t, "P10: one was given up", q, 9, 0, 0, 0, 0)
	wantTold(t, "P10", q, 3, api.ErrCancelled, 0)
	reads(t, q, 5)
	steps(t, q, "r5+1[4]")
	complete(t, q, 0, true)
	cancel(t, q, 4)
	// What was given up waits no longer: there is no tick for it.
	drive(t, q, nil, 0, 0)
	wantTold(t, "P10", q, 4, api.ErrCancelled, 1)
}

func TestDriveOfWhatWasGivenUpUnderWay(t *testing.T) {
	for _, told := range []bool{false, true} {
		for _, fault := range []bool{false, true} {
			q := open(t, 1)
			writes(t, q, 2)
			steps(t, q, "w2+1[1]")
			reads(t, q, 2)
			cancel(t, q, 1)
			if told {
				wantTold(t, "P10", q, 1, api.ErrCancelled, 0)
			}
			drive(t, q, []bool{fault}, 2, 0)
			want := []byte{2, 2, 2, 2}
			if fault {
				want = []byte{0, 0, 0, 0}
			}
			wantPage(t, "P10: its command goes on, and is not tried again", q, 2, want...)
			wantAnswer(t, "P10: the read behind it", q, 2, 1, want...)
			if !told {
				wantTold(t, "P10", q, 1, api.ErrCancelled, 1)
			}
		}
	}
}

// A command is completed, and counted, even if none of its requests is wanted any more.
func TestDriveWithOnlyGivenUpRequestsUnderWay(t *testing.T) {
	q := open(t, 2)
	reads(t, q, 2, 3, 8)
	steps(t, q, "r2+2[1 2]", "r8+1[3]")
	for request := 1; request <= 3; request++ {
		cancel(t, q, request)
		wantTold(t, "P10", q, request, api.ErrCancelled, 0)
	}
	drive(t, q, faulty(2), 2, 0)
}

func TestDriveWithFewerFaultsThanCommands(t *testing.T) {
	for n := range 4 {
		q := open(t, 1)
		reads(t, q, 0, 2, 4, 6)
		drive(t, q, faulty(n), 4+n, min(n, 1))
		for request := 1; request <= 4; request++ {
			tries := 1
			if request <= n {
				tries = 2
			}
			wantAnswer(t, fmt.Sprintf("P10: %d faults", n), q, request, tries, 0, 0, 0, 0)
		}
	}
}

func TestDriveWithMoreFaultsThanCommands(t *testing.T) {
	q := open(t, 1)
	reads(t, q, 0, 2)
	drive(t, q, []bool{false, false, true, true, true}, 2, 0)
	// They are not kept for the next time either.
	reads(t, q, 4)
	drive(t, q, nil, 1, 0)
	for request := 1; request <= 3; request++ {
		wantAnswer(t, "P10", q, request, 1, 0, 0, 0, 0)
	}
}

func TestDriveOnlyReadsItsFaults(t *testing.T) {
	room := []bool{true, false, true, true, true, true}
	q := open(t, 2)
	reads(t, q, 0, 2, 4)
	drive(t, q, room[:2], 4, 1)
	if !slices.Equal(room, []bool{true, false, true, true, true, true}) {
		t.Errorf("P1: Drive changed what it was handed: %v", room)
	}
	clear(room)
	wantAnswer(t, "P10", q, 1, 2, 0, 0, 0, 0)
	wantAnswer(t, "P10: nothing is read behind the list", q, 2, 1, 0, 0, 0, 0)
	wantAnswer(t, "P10: nothing is read behind the list", q, 3, 1, 0, 0, 0, 0)
}

func TestHeadStaysWhereDriveLeftIt(t *testing.T) {
	q := open(t, 4)
	reads(t, q, 4, 9)
	steps(t, q, "r4+1[1]")
	drive(t, q, nil, 2, 0)
	reads(t, q, 9, 11, 1)
	steps(t, q, "r11+1[4]", "r1+1[5]", "r9+1[3]")
	drive(t, q, nil, 3, 0)
	reads(t, q, 9, 10)
	steps(t, q, "r10+1[7]", "r9+1[6]")
}

// On one processor a goroutine that nobody waits for has not even begun to end when Drive answers.
func TestDrivesGoroutineHasEnded(t *testing.T) {
	defer runtime.GOMAXPROCS(runtime.GOMAXPROCS(1))
	before, left := runtime.NumGoroutine(), 0
	const times = 60
	for i := range times {
		q := open(t, 1+i%api.MaxDepth)
		if i%3 > 0 {
			fill(t, q)
		}
		q.Drive(faulty(10 * (i % 2)))
		if runtime.NumGoroutine() > before {
			left++
		}
	}
	// One that is interrupted behind its last word may be seen still.
	if left > times/4 {
		t.Errorf("P1: behind %d of %d calls of Drive a goroutine was left", left, times)
	}
	for range 200 {
		if runtime.NumGoroutine() <= before {
			return
		}
		time.Sleep(5 * time.Millisecond)
	}
	t.Errorf("P1: %d goroutines, %d before", runtime.NumGoroutine(), before)
}

func TestDriveOfManyQueuesAtATime(t *testing.T) {
	work := func(i int) string {
		q, _ := elevator.New(1 + i%api.MaxDepth)
		for k := range api.MaxRequests {
			if page := (i + 7*k) % api.Pages; k%3 == 0 {
				q.Write(page, []byte{byte(i), byte(k), 0, 1})
			} else {
				q.Read(page)
			}
		}
		return tell(q.Drive(faulty(i)), q.Now(), q.Disk())
	}
	const queues = 24
	var got [queues]string
	var all sync.WaitGroup
	for i := range got {
		all.Go(func() { got[i] = work(i) })
	}
	all.Wait()
	for i := range got {
		if want := work(i); got[i] != want {
			t.Errorf("P1: queue %d beside others: %s, want %s", i, got[i], want)
		}
	}
}
