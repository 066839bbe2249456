package mean

import "tableau/api"

// node: of an ability's tree, with its kids.
type node struct {
	api.Node
	kids []*node
}

// grown is the tree with which the list begins, and what stands behind it.
func grown(l []api.Node) (*node, []api.Node) {
	n, rest := &node{Node: l[0]}, l[1:]
	for range n.Kids {
		var kid *node
		kid, rest = grown(rest)
		n.kids = append(n.kids, kid)
	}
	return n, rest
}
