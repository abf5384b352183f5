package flow

import "lockstep/api"

// stepper is a node and how far it has come. One worker at most has it at a time.
type stepper struct {
	api.Node
	listed int
	reads  int
	first  int64
}

// atEnd: is there nothing left to do behind the List, whatever may come?
func (s *stepper) atEnd() bool {
	return s.Kind == api.Source || s.Kind == api.Sink && int64(s.reads) == s.N
}

// in: the channel to read from next. All nodes that have two read from them in turn.
func (s *stepper) in() int { return s.In[s.reads%len(s.In)] }

// take answers what is to be written now that x was read, and to which channels.
func (s *stepper) take(x int64) (y int64, outs []int) {
	turn := s.reads % 2
	s.reads++
	switch s.Kind {
	case api.Map:
		return 31*x + s.N, s.Out
	case api.Keep:
		if x%s.N != 0 {
			return 0, nil
		}
	case api.Split:
		return x, s.Out[turn : turn+1]
	case api.Zip:
		if turn == 0 {
			s.first = x
			return 0, nil
		}
		return 31*s.first + x, s.Out
	}
	return x, s.Out
}
