package weave

import "lockstep/api"

// What a part may do at one time.
const (
	skip   = iota // find and write what does not matter
	find          // what it will write
	write         // what it has found
	both          // find and write: in between nothing changes what it finds
	first         // of an If: do its first block
	second        // or its second one, if it has one
)

// move of a part, and the outline to which it goes.
type move struct {
	part, kind int
	to         outline
}

// moves that there may be. If it does not matter when a part goes on, it goes on first.
func (p *plan) moves(o outline) []move {
	var l []move
	for i := range p.parts {
		if !p.ready(&o, i) {
			continue
		}
		if p.alone(&o, i) {
			return p.movesOf(nil, o, i)
		}
		l = p.movesOf(l, o, i)
	}
	return l
}

// movesOf one part, behind those that are known.
func (p *plan) movesOf(l []move, o outline, i int) []move {
	own := &p.parts[i]
	if o.found.has(i) {
		return p.addWrite(l, o, i, write)
	}
	if own.changes() && !o.need.has(own.at) {
		l = append(l, move{i, skip, o.without(one(i))})
	}
	if own.reads&^o.need != 0 {
		return l
	}
	// Some of what it reads may matter no more behind it.
	for forgotten := range (own.reads & p.guessed).subsets() {
		to := o
		to.need &^= forgotten
		l = p.addRead(l, to, i)
	}
	return l
}

// addRead: what the part may do when it reads its numbers.
func (p *plan) addRead(l []move, o outline, i int) []move {
	own := &p.parts[i]
	switch {
	case !own.changes():
		return append(l, move{i, first, o.without(one(i) | own.blocks[1])}, move{i, second, o.without(one(i) | own.blocks[0])})
	case p.calm(&o, i):
		return p.addWrite(l, o, i, both)
	}
	o.found |= one(i)
	return append(l, move{i, find, o})
}

// addWrite: what is written matters, or it would have been skipped. So what an Assign writes over must not matter, but what an Add adds to must.
func (p *plan) addWrite(l []move, o outline, i, kind int) []move {
	own := &p.parts[i]
	if p.guessed.has(own.at) && o.need.has(own.at) != (own.kind == api.Add) {
		return l
	}
	o.need |= one(own.at)
	return append(l, move{i, kind, o.without(one(i))})
}

// without parts: they are over.
func (o outline) without(parts set) outline {
	o.found &^= parts
	o.over |= parts
	return o
}
