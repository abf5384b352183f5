package shard

import (
	"slices"
	"strings"
	"sync/atomic"

	"lockstep/api"
)

// leavesAtOnce: how many a worker takes at a time; one by one the channel would be most of the work.
const leavesAtOnce = 64

// interner finds out which terms are equal. Equal ones have one stand-in: the place of one of them, whichever comes first in this schedule. Of each term there is also how many of its args have none yet.
type interner struct {
	terms  []term
	stands []int
	left   []atomic.Int64
	known  book[int]
}

// standIns: of each term its stand-in.
func standIns(terms []term, workers int) []int {
	in := &interner{
		terms:  terms,
		stands: make([]int, len(terms)),
		left:   make([]atomic.Int64, len(terms)),
		known:  newBook[int](api.MaxWorkers),
	}
	for at := range terms {
		in.left[at].Store(int64(len(terms[at].args)))
	}
	sideBySide(leaves(terms), workers, func(list []int) {
		for _, leaf := range list {
			in.climb(leaf)
		}
	})
	return in.stands
}

// leaves: the places of the terms without args, in lists.
func leaves(terms []term) [][]int {
	var all []int
	for at := range terms {
		if len(terms[at].args) == 0 {
			all = append(all, at)
		}
	}
	return slices.Collect(slices.Chunk(all, leavesAtOnce))
}

// climb finds the stand-in of a term whose args have theirs, and goes up while it was the last one that its parent waited for. By the count alone the last one knows that the others' are there.
func (in *interner) climb(at int) {
	for {
		in.stands[at] = in.standIn(at)
		at = in.terms[at].parent
		if at == noParent || in.left[at].Add(-1) > 0 {
			return
		}
	}
}

// standIn of a term: itself, if it is the first one of its look.
func (in *interner) standIn(at int) int {
	return in.known.change(in.look(at), func(had int, there bool) int {
		if there {
			return had
		}
		return at
	})
}

// look of a term: the same text for equal terms, and for no others. How many args it has stands ahead, and each arg's stand-in takes as much room as another's, so that the name can't be taken for one of them.
func (in *interner) look(at int) string {
	t := &in.terms[at]
	text := make([]byte, 0, 4+4*len(t.args)+len(t.name))
	text = spell(text, len(t.args))
	for _, arg := range t.args {
		text = spell(text, in.stands[arg])
	}
	return string(append(text, t.name...))
}

// spell a number in four bytes: all numbers here are below MaxItems.
func spell(text []byte, n int) []byte {
	return append(text, byte(n), byte(n>>8), byte(n>>16), byte(n>>24))
}

// number gives ids to the terms, in their order: so the schedule, which chose the stand-ins, is not to be seen in them. firsts: of each id the place where it comes first.
func number(stands []int) (ids, firsts []int) {
	ids = make([]int, len(stands))
	given := slices.Repeat([]int{-1}, len(stands))
	for at, stand := range stands {
		if given[stand] < 0 {
			given[stand] = len(firsts)
			firsts = append(firsts, at)
		}
		ids[at] = given[stand]
	}
	return ids, firsts
}

// tellIDs: the ids of the terms at these places.
func tellIDs(places, all []int) []int {
	ids := make([]int, len(places))
	for i, place := range places {
		ids[i] = all[place]
	}
	return ids
}

// tellTable: of each id its entry, by the term with which it came first.
func tellTable(terms []term, firsts, all []int) []api.Entry {
	table := make([]api.Entry, len(firsts))
	for id, first := range firsts {
		t := &terms[first]
		e := api.Entry{Key: strings.Clone(t.name), Kind: len(t.args), N: 7}
		for _, arg := range t.args {
			e.N = 31*e.N + int64(all[arg])
		}
		table[id] = e
	}
	return table
}
