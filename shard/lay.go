package shard

import "lockstep/api"

// maxDepth of a term.
const maxDepth = 100

// noParent of a term that is within no other.
const noParent = -1

// term that is laid down: it has a place, and so have its args and the one that it is an arg of.
type term struct {
	name   string
	args   []int
	parent int
}

// allNamed: has every term a name that is not too long? Each list of terms is looked at once, by where it begins: a list may stand at many places, or even within itself, and to go there again and again might never end.
func allNamed(l []api.Term) bool {
	seen := map[*api.Term]int{}
	todo := [][]api.Term{l}
	for len(todo) > 0 {
		last := len(todo) - 1
		list := unseen(seen, todo[last])
		todo = todo[:last]
		for _, t := range list {
			if len(t.Name) > maxText {
				return false
			}
			if len(t.Args) > 0 {
				todo = append(todo, t.Args)
			}
		}
	}
	return true
}

// unseen: those of the list that have not been seen yet, and now are. Of lists that begin at one place the shorter are parts of the longest.
func unseen(seen map[*api.Term]int, list []api.Term) []api.Term {
	if len(list) == 0 {
		return nil
	}
	known := seen[&list[0]]
	if known >= len(list) {
		return nil
	}
	seen[&list[0]] = len(list)
	return list[known:]
}

// layer lays terms down. room is for how many terms that have not been met yet.
type layer struct {
	terms []term
	room  int
}

// lay answers all terms in the order in which they get their ids, and the places of those of the list; not ok, if they are too many or too deep.
func lay(l []api.Term) (terms []term, tops []int, ok bool) {
	to := layer{room: api.MaxItems}
	tops, ok = to.layAll(l, 1)
	return to.terms, tops, ok
}

// layAll lays the terms of a list down, each behind its args, and answers their places. The whole list takes its room ahead of what is within it: a term comes to its place late, and those that are still on their way are terms too. It stops as soon as it knows that there is no room: what is small in memory may be greater than can be gone through.
func (to *layer) layAll(l []api.Term, depth int) (places []int, ok bool) {
	to.room -= len(l)
	if to.room < 0 || len(l) > 0 && depth > maxDepth {
		return nil, false
	}
	places = make([]int, len(l))
	for i, t := range l {
		args, ok := to.layAll(t.Args, depth+1)
		if !ok {
			return nil, false
		}
		places[i] = to.put(t.Name, args)
	}
	return places, true
}

// put a term whose args have their places behind all others.
func (to *layer) put(name string, args []int) int {
	place := len(to.terms)
	for _, arg := range args {
		to.terms[arg].parent = place
	}
	to.terms = append(to.terms, term{name: name, args: args, parent: noParent})
	return place
}
