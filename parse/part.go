package parse

import "bootjack/api"

// part is a node together with what it is made of. Nodes get their numbers when all is read, for a path may put something into a set that stands far ahead of it.
type part struct {
	node    api.Node
	kids    []*part
	byPaths bool // of a set: paths made it, and more of them may go into it
}

func newPart(kind, at int, text string, kids ...*part) *part {
	return &part{node: api.Node{Kind: kind, Text: text, At: at}, kids: kids}
}

// lay puts the nodes of all that x is made of, and its own, behind those of a list.
func (x *part) lay(l []api.Node) []api.Node {
	n := x.node
	for _, k := range x.kids {
		l = k.lay(l)
		n.Kids = append(n.Kids, len(l)-1)
	}
	return append(l, n)
}
