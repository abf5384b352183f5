package shard

import "lockstep/api"

// maxDepth of a term.
const maxDepth = 100

// noParent of a term that is within no other.
const noParent = -1

// term that is laid down: it has a place, and so have its args and the one that it is an arg of.
type term struct {
	name   string
	args   []int
	parent int
}

// allNamed: has every term a name that is not too long? Each list of terms is looked at once, by where it begins: a list may stand at many places, or even within itself, and to go there again and again might never end.
func allNamed(l []api.Term) bool {
	seen := map[*api.Term]int{}
	todo := [][]api.Term{l}
	for len(todo) > 0 {
		last := len(todo) - 1
		list := unseen(seen, todo[last])
		todo = todo[:last]
		for _, t := range list {
			if len(t.Name) > maxText {
				return false
			}
			if len(t.Args) > 0 {
				todo = append(todo, t.Args)
			}
		}
	}
	return true
}

// unseen: those of the list that have not been seen yet, and now are. Of lists that begin at one place the shorter are parts of the longest.
func unseen(seen map[*api.Term]int, list []api.Term) []api.Term {
	if len(list) == 0 {
		return nil
	}
	known := seen[&list[0]]
	if known >= len(list) {
		return nil
	}
	seen[&list[0]] = len(list)
	return list[known:]
}

// lay answers all terms in the order in which they get their ids, and the places of those of the list; not ok, if they are too many or too deep.
func lay(l []api.Term) (terms []term, tops []int, ok bool) {
	for _, t := range l {
		if terms, ok = layOne(terms, t, 1); !ok {
			return nil, nil, false
		}
		tops = append(tops, len(terms)-1)
	}
	return terms, tops, true
}

// layOne lays the term's args down, and then the term, which so has the last place. It stops as soon as it knows that there is no room: what is small in memory may be greater than can be gone through.
func layOne(terms []term, t api.Term, depth int) (_ []term, ok bool) {
	if depth > maxDepth || len(terms)+len(t.Args) >= api.MaxItems {
		return nil, false
	}
	args := make([]int, len(t.Args))
	for i, arg := range t.Args {
		if terms, ok = layOne(terms, arg, depth+1); !ok {
			return nil, false
		}
		args[i] = len(terms) - 1
	}
	for _, arg := range args {
		terms[arg].parent = len(terms)
	}
	return append(terms, term{name: t.Name, args: args, parent: noParent}), true
}
