package phase

import "lockstep/api"

// sending of a number: it comes when the phase is over.
type sending struct {
	to int
	n  int64
}

// process on its way. While a phase is on nobody but the one who has it in hand touches it, so it needs no lock.
type process struct {
	left   []api.Do
	number int64
	come   []int64
	sent   []sending
}

// goOn till the phase is over for this process: behind a DoSync, or at its end.
func (p *process) goOn() {
	for !p.atEnd() {
		d := p.left[0]
		p.left = p.left[1:]
		switch d.Kind {
		case api.DoAdd:
			p.number += d.N
		case api.DoSend:
			p.sent = append(p.sent, sending{to: d.To, n: p.number + d.N})
		case api.DoFold:
			p.fold()
		case api.DoSync:
			return
		}
	}
}

// atEnd: has it nothing left to do? A DoSync that it came to is done.
func (p *process) atEnd() bool { return len(p.left) == 0 }

// fold takes what has come into the number, each once.
func (p *process) fold() {
	for _, n := range p.come {
		p.number = 31*p.number + n
	}
	p.come = p.come[:0]
}
