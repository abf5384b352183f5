package weave

// outline of a state: all of it but what the numbers are.
//
// A number matters, if it is read for what matters ahead of an Assign to it, or is there in the end. The outline says ahead of time which ones do, though it may be wrong: so the others need not be known, and many states are one. Outlines that can't be right are found out by hope.
type outline struct {
	over  set // parts that are done, or never will be
	found set // parts that have found what they write, and not written it yet
	need  set // numbers that matter
}

// age: it grows by each move, whatever the way was.
func (o *outline) age() int { return 2*o.over.size() + o.found.size() }

// ready: may the part go on?
func (p *plan) ready(o *outline, i int) bool {
	return !o.over.has(i) && p.parts[i].before&^o.over == 0
}

// calm: will nothing change any more what the part finds?
func (p *plan) calm(o *outline, i int) bool {
	return o.found.has(i) || p.parts[i].changers&^o.over == 0
}

// alone: is it the same for all that may come whether the part goes on now, or later?
func (p *plan) alone(o *outline, i int) bool {
	own := &p.parts[i]
	return p.calm(o, i) && (own.rivals|own.readers&^o.found)&^o.over == 0
}

func (p *plan) allNumbers() set { return one(len(p.changed)) - 1 }

// hope: can it come as the outline says? In the end all numbers matter.
func (p *plan) hope(o outline) bool {
	if o.over == p.all {
		return o.need == p.allNumbers()
	}
	return len(p.waysFrom(o)) > 0
}

// waysFrom an outline: the moves behind which there is hope.
func (p *plan) waysFrom(o outline) []move {
	ways, known := p.ways[o]
	if known {
		return ways
	}
	for _, m := range p.moves(o) {
		if p.hope(m.to) {
			ways = append(ways, m)
		}
	}
	p.ways[o] = ways
	return ways
}
