package team

import (
	"lockstep/api"
	"lockstep/laid"
)

// handful: so many steps a worker takes ahead of telling of them.
const handful = 100

// worker of a crew. It tells of its steps by handfuls, and of the rest when it is free: else all would stand in line at the one count. So some steps too many may be taken, but none is answered for: in the end all are told of.
type worker struct {
	*crew
	took int64 // steps that it has not told of yet
}

// work: a worker is free till it is handed a path. Which of the two comes first, if both might, is the same: there is a path when it is over only if the steps were too few, and then nothing of it is answered.
func (w *worker) work() {
	for {
		select {
		case p := <-w.ready:
			w.follow(p)
		case <-w.over:
			return
		}
	}
}

// follow a path, and those to which it leads, as long as there is one for this worker.
func (w *worker) follow(p *path) {
	for p != nil {
		p = w.goOn(p)
	}
	w.tell()
}

// goOn by one statement, or from the end of a list. It answers the path with which to go on, if there is one.
func (w *worker) goOn(p *path) *path {
	if p.ended() {
		return w.leave(p)
	}
	return w.do(p)
}

// leave a path at its end: no path comes behind it, if others have not come so far yet.
func (w *worker) leave(p *path) *path {
	p.times--
	switch {
	case p.times > 0:
		p.next = 0
		return p
	case p.up == nil:
		w.stop()
		return nil
	case p.up.open.Add(-1) > 0:
		return nil
	}
	return p.up
}

// do the next statement: no path comes behind it, if there are no steps left.
func (w *worker) do(p *path) *path {
	s := &p.list[p.next]
	p.next++
	switch s.Kind {
	case api.Repeat:
		return w.split(p, s.Blocks, s.Times)
	case api.Par:
		return w.split(p, s.Blocks, 1)
	}
	if !w.mayStep() {
		return nil
	}
	n := s.E.Value(w.number)
	switch {
	case s.Kind == api.Assign:
		w.numbers[s.Place].Store(n)
	case s.Kind == api.Add:
		w.numbers[s.Place].Add(n)
	case n > 0:
		return w.split(p, s.Blocks[:1], 1)
	case len(s.Blocks) > 1:
		return w.split(p, s.Blocks[1:], 1)
	}
	return p
}

// split a path into those through the blocks. One is for this worker; the others are for those that are free, or will be.
func (w *worker) split(p *path, blocks [][]laid.Stat, times int64) *path {
	inner := p.into(blocks, times)
	for _, other := range inner[1:] {
		w.ready <- other
	}
	return inner[0]
}

// mayStep: is a step left, as far as is known?
func (w *worker) mayStep() bool {
	w.took++
	return w.took < handful || w.tell()
}

// tell of the steps: were there so many? If not, it is over for all.
func (w *worker) tell() bool {
	left := w.left.Add(-w.took)
	w.took = 0
	if left < 0 {
		w.stop()
	}
	return left >= 0
}
