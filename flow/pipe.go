package flow

import "sync"

// nobody is the number of no node.
const nobody = -1

// pipe is a channel of the network, read by one node at most and written by one. It keeps what was read as well: all that was ever written is the answer.
type pipe struct {
	sync.Mutex
	numbers []int64
	limit   int
	read    int
	waiting int
}

// next answers the number that comes next, if there is one. If not, the reader is put down as waiting under the same lock, so that no write can slip in between and leave it asleep.
func (p *pipe) next(reader int) (x int64, came bool) {
	p.Lock()
	defer p.Unlock()
	if p.read == len(p.numbers) {
		p.waiting = reader
		return 0, false
	}
	p.read++
	return p.numbers[p.read-1], true
}

// write answers who waited for the number, and whether there was room for it. Who waited waits no more: it is woken once.
func (p *pipe) write(x int64) (woken int, taken bool) {
	p.Lock()
	defer p.Unlock()
	if len(p.numbers) == p.limit {
		return nobody, false
	}
	p.numbers = append(p.numbers, x)
	woken, p.waiting = p.waiting, nobody
	return woken, true
}
