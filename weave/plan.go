package weave

import (
	"slices"

	"lockstep/api"
	"lockstep/laid"
)

// maxParts: the document allows so many, and package api has no name for it.
const maxParts = 9

// part of a program: an Assign, an Add or an If, once for each time that it may be done.
type part struct {
	kind   int
	at     int // of an Assign or Add: the number that it changes
	e      *laid.Expr
	reads  set    // the numbers that it reads
	before set    // the parts that must be over ahead of it
	behind set    // the parts that it must be over ahead of
	blocks [2]set // of an If: the parts of its blocks
	meets
}

// plan of all that may happen. Numbers are those of the names that some part changes: there are no more of them than parts, however many names there are.
type plan struct {
	start   []int64 // the numbers of all names
	changed []int   // of each number: the place of its name
	parts   []part
	all     set   // parts
	uses    []use // of each number
	guessed set   // numbers of which outlines say whether they matter; all others do
	twins   []twin
	ways    map[outline][]move
}

// count the parts of a program; too many count as one too many: how many they are might run over.
func count(l []laid.Stat) int {
	n := 0
	for i := range l {
		n = min(n+countOne(&l[i]), maxParts+1)
	}
	return n
}

func countOne(s *laid.Stat) int {
	n := 0
	for _, block := range s.Blocks {
		n += count(block)
	}
	switch s.Kind {
	case api.Repeat:
		return n * int(s.Times)
	case api.Par:
		return n
	}
	return n + 1
}

func planOf(l []laid.Stat, start []int64) *plan {
	p := &plan{start: start, changed: changedIn(nil, l), ways: map[outline][]move{}}
	slices.Sort(p.changed)
	p.changed = slices.Compact(p.changed)
	p.all = p.lay(l, 0)
	for i := range p.parts {
		for j := range p.parts {
			if p.parts[j].before.has(i) {
				p.parts[i].behind |= one(j)
			}
		}
	}
	p.uses = p.allUses()
	p.guessed = p.toGuess()
	for i := range p.parts {
		p.parts[i].meets = p.meetsOf(i)
	}
	p.twins = p.allTwins()
	return p
}

// changedIn: the places of the names that the statements change, with those that are known.
func changedIn(known []int, l []laid.Stat) []int {
	for i := range l {
		s := &l[i]
		if s.Kind == api.Assign || s.Kind == api.Add {
			known = append(known, s.Place)
		}
		for _, block := range s.Blocks {
			known = changedIn(known, block)
		}
	}
	return known
}

// lay down the parts of the statements, behind those that are ahead of them; it answers which they are.
func (p *plan) lay(l []laid.Stat, ahead set) set {
	var own set
	for i := range l {
		own |= p.layOne(&l[i], ahead|own)
	}
	return own
}

func (p *plan) layOne(s *laid.Stat, ahead set) set {
	var own set
	switch s.Kind {
	case api.Repeat:
		for range s.Times {
			own |= p.lay(s.Blocks[0], ahead|own)
		}
	case api.Par:
		for _, block := range s.Blocks {
			own |= p.lay(block, ahead)
		}
	case api.If:
		i := p.add(s, ahead)
		own = one(i)
		for k, block := range s.Blocks {
			p.parts[i].blocks[k] = p.lay(block, ahead|one(i))
			own |= p.parts[i].blocks[k]
		}
	default:
		own = one(p.add(s, ahead))
	}
	return own
}

func (p *plan) add(s *laid.Stat, ahead set) int {
	at, _ := slices.BinarySearch(p.changed, s.Place)
	p.parts = append(p.parts, part{kind: s.Kind, at: at, e: &s.E, reads: p.readsOf(&s.E), before: ahead})
	return len(p.parts) - 1
}

// readsOf: the numbers that an expression reads.
func (p *plan) readsOf(e *laid.Expr) set {
	var reads set
	if e.Kind == api.Name {
		if at, ok := slices.BinarySearch(p.changed, e.Place); ok {
			reads = one(at)
		}
	}
	for i := range e.Kids {
		reads |= p.readsOf(&e.Kids[i])
	}
	return reads
}

func (own *part) changes() bool { return own.kind != api.If }
