package lang

import "lockstep/api"

// What may be done with a name.
const (
	assigns = 1 << iota
	adds
	reads
)

// uses: all that is done with each name.
type uses map[string]int

// clashes: do two blocks of a Par anywhere in the statements clash? If none do, all that the statements do has come to in. What is never done counts too.
func clashes(l []api.Stat, in uses) bool {
	for i := range l {
		s := &l[i]
		in.change(s)
		in.read(&s.E)
		if s.Kind == api.Par {
			if blocksClash(s.Blocks, in) {
				return true
			}
			continue
		}
		for _, block := range s.Blocks {
			if clashes(block, in) {
				return true
			}
		}
	}
	return false
}

// blocksClash: do two of the blocks clash with one another, or two within one of them? Each is held against all ahead of it together.
func blocksClash(blocks [][]api.Stat, in uses) bool {
	ahead := uses{}
	for _, block := range blocks {
		own := uses{}
		if clashes(block, own) {
			return true
		}
		for name, how := range own {
			if clash(how, ahead[name]) || clash(ahead[name], how) {
				return true
			}
		}
		ahead.join(own)
	}
	in.join(ahead)
	return false
}

// clash: may what one does with a name not be done beside what the other does with it? (To be asked both ways.)
func clash(one, other int) bool {
	return one&assigns != 0 && other != 0 || one&adds != 0 && other&reads != 0
}

func (u uses) change(s *api.Stat) {
	switch s.Kind {
	case api.Assign:
		u[s.Name] |= assigns
	case api.Add:
		u[s.Name] |= adds
	}
}

func (u uses) read(e *api.Expr) {
	if e.Kind == api.Name {
		u[e.Name] |= reads
	}
	for i := range e.Kids {
		u.read(&e.Kids[i])
	}
}

func (u uses) join(others uses) {
	for name, how := range others {
		u[name] |= how
	}
}
