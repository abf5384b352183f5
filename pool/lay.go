package pool

import "lockstep/api"

// What the document allows, and package api has no name for.
const (
	maxKids  = 100
	maxDepth = 100
)

// node of a tree that is laid out level by level: its kids stand side by side, from first on.
type node struct {
	tree                 api.Tree
	parent, first, depth int
}

// lay answers the tree's nodes, if it is one and not too large. All of it is looked at first, however large: a wrong node is told ahead of too many.
func lay(t api.Tree) ([]node, api.Errno) {
	if !allSound(t) {
		return nil, api.ErrArg
	}
	nodes := levels(t)
	if nodes == nil {
		return nil, api.ErrLarge
	}
	return nodes, api.OK
}

// layFor is lay for so many workers, who are looked at behind the tree.
func layFor(t api.Tree, workers int) ([]node, api.Errno) {
	nodes, err := lay(t)
	if err == api.OK && (workers < 1 || workers > api.MaxWorkers) {
		return nil, api.ErrArg
	}
	return nodes, err
}

// sound: is it a node of a tree, whatever its kids are?
func sound(t api.Tree) bool {
	switch t.Kind {
	case api.Leaf:
		return len(t.Kids) == 0
	case api.Plus, api.Minus, api.Most, api.Chain:
		return t.N == 0 && len(t.Kids) <= maxKids
	}
	return false
}

// allSound looks at each list of kids once, by where it begins: a list may stand at many places of a tree, or even within itself, and to go there again and again might never end.
func allSound(t api.Tree) bool {
	seen := map[*api.Tree]int{}
	todo := [][]api.Tree{{t}}
	for len(todo) > 0 {
		last := len(todo) - 1
		kids := unseen(seen, todo[last])
		todo = todo[:last]
		for _, kid := range kids {
			if !sound(kid) {
				return false
			}
			if len(kid.Kids) > 0 {
				todo = append(todo, kid.Kids)
			}
		}
	}
	return true
}

// unseen: those of the list that have not been seen yet, and now are. Of lists that begin at one place the shorter are parts of the longest.
func unseen(seen map[*api.Tree]int, list []api.Tree) []api.Tree {
	known := seen[&list[0]]
	if known >= len(list) {
		return nil
	}
	seen[&list[0]] = len(list)
	return list[known:]
}

// levels answers all nodes, the root first, each level from the left, or nil if they are too many or too deep. It stops as soon as it knows.
func levels(t api.Tree) []node {
	nodes := []node{{tree: t, parent: -1, depth: 1}}
	for at := 0; at < len(nodes); at++ {
		n := &nodes[at]
		n.first = len(nodes)
		kids, below := n.tree.Kids, n.depth+1
		if n.depth > maxDepth || len(nodes)+len(kids) > api.MaxItems {
			return nil
		}
		for _, kid := range kids {
			nodes = append(nodes, node{tree: kid, parent: at, depth: below})
		}
	}
	return nodes
}
