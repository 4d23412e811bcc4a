package audit

import (
	"sync"

	"tidemark/api"
)

const mostWorkers = 8

// pool is workers that look at the results of a list. Which of them is quicker does not matter: every place below one that is found was sent ahead of it, and is finished before the pool answers.
type pool struct {
	list    []api.Result
	places  chan int
	done    chan struct{} // closed as soon as one is found: later places need not be looked at
	stop    sync.Once
	running sync.WaitGroup // the workers, and the one that sends

	mutex sync.Mutex // over what is found
	first int        // the lowest place of a wrong result, -1 as long as there is none
	wrong api.Errno  // what is wrong with it
}

// CheckAll looks at many results on so many workers, and tells the first in the list that is wrong: its place, and what Check says of it (P18.5).
func CheckAll(list []api.Result, workers int) (int, api.Errno) {
	p := &pool{list: list, places: make(chan int), done: make(chan struct{}), first: -1}
	p.running.Add(1)
	go p.send()
	for range crew(workers) {
		p.running.Add(1)
		go p.work()
	}
	p.running.Wait()
	return p.first, p.wrong
}

// crew tells how many workers there are if so many are asked for.
func crew(asked int) int { return min(max(asked, 1), mostWorkers) }

// send sends the places, rising, until all are sent or one is found.
func (p *pool) send() {
	defer p.running.Done()
	defer close(p.places)
	for place := range p.list {
		select {
		case p.places <- place:
		case <-p.done:
			return
		}
	}
}

func (p *pool) work() {
	defer p.running.Done()
	for place := range p.places {
		if wrong, _ := Check(p.list[place]); wrong != api.OK {
			p.found(place, wrong)
		}
	}
}

// found keeps a wrong result, unless one that stands ahead of it is known.
func (p *pool) found(place int, wrong api.Errno) {
	p.mutex.Lock()
	defer p.mutex.Unlock()
	if p.first < 0 || place < p.first {
		p.first, p.wrong = place, wrong
	}
	p.stop.Do(func() { close(p.done) })
}
