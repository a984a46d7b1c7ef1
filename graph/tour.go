package graph

import "slices"

// unmet stands for the node ahead of one that isn't met.
const unmet = -1

// tour is where ways lead from some nodes.
type tour struct {
	// nodes are those that are met, the nearest ones first. From one node on, those that are as near stand by the least of the shortest ways to them.
	nodes []int
	// ahead has for each node that is met the one ahead of it on that way; a node at which the tour begins has itself.
	ahead []int
}

func (g net) tour(from ...int) tour {
	t := tour{ahead: slices.Repeat([]int{unmet}, len(g))}
	for _, node := range from {
		t.meet(node, node)
	}
	for at := 0; at < len(t.nodes); at++ {
		node := t.nodes[at]
		for _, next := range g[node] {
			t.meet(next, node)
		}
	}
	return t
}

func (t tour) met(node int) bool { return t.ahead[node] != unmet }

// meet takes up a node, unless it is met already.
func (t *tour) meet(node, ahead int) {
	if !t.met(node) {
		t.nodes = append(t.nodes, node)
		t.ahead[node] = ahead
	}
}

// way is the nodes of the way to one that is met, from where the tour begins on.
func (t tour) way(node int) []int {
	way := []int{node}
	for t.ahead[node] != node {
		node = t.ahead[node]
		way = append(way, node)
	}
	slices.Reverse(way)
	return way
}
