package elevator

// order is a command that Drive has its disk carry out, and how that ends.
type order struct {
	command flight
	fault   bool
}

// worker is the disk of Drive: a goroutine that carries orders out. Whoever gives it one waits till it is carried out, so that no two touch the queue at the same time.
type worker struct {
	orders    chan order
	completed chan struct{} // a word for each order
	allDone   chan struct{} // closed when no order comes any more
	ended     chan struct{} // closed when the goroutine ends
}

// startDisk sets a disk to work on this queue.
func (q *Queue) startDisk() worker {
	w := worker{
		orders:    make(chan order),
		completed: make(chan struct{}),
		allDone:   make(chan struct{}),
		ended:     make(chan struct{}),
	}
	go w.serve(q)
	return w
}

// serve never has a choice: allDone is closed by the one who gives the orders, behind the last of them.
func (w worker) serve(q *Queue) {
	defer close(w.ended)
	for {
		select {
		case o := <-w.orders:
			q.finish(o.command, o.fault)
			w.completed <- struct{}{}
		case <-w.allDone:
			return
		}
	}
}

// carryOut gives the disk an order, and waits for it.
func (w worker) carryOut(o order) {
	w.orders <- o
	<-w.completed
}

// stop lets the disk end, and waits for that too: no goroutine outlasts its call (P1).
func (w worker) stop() {
	close(w.allDone)
	<-w.ended
}

// sendAll sends commands as long as there are any.
func (q *Queue) sendAll() {
	for sent := true; sent; {
		_, sent = q.Step()
	}
}
