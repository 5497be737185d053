package same

import (
	"cmp"
	"slices"

	"marginalia/api"
	"marginalia/schema"
)

const empty = -1 // the number of a list of nothing

// classes parts nodes: two are in one class as long as nothing is found by which they differ. So nodes that go round need no end to be equal.
type classes struct {
	of      []int   // of each node its class
	at      []int   // of each node its place among those of its class
	members [][]int // of each class its nodes
	uses    [][]use // of each node where it is a Kid
}

// use is a place where a node is a Kid: of which node, and at which place.
type use struct{ node, place int }

// change is a place whose Kid has come into another class: the class of the node that it is a Kid of, this node, the place, and the Kid's class.
type change struct{ class, node, place, to int }

// look is what is seen of a node without its Kids and its Tag.
type look struct {
	kind  int
	value api.Value
	text  string // of a scalar that has no value
}

// classesOf parts these nodes of g as far as they differ; all Kids of them must be among them.
func classesOf(g api.Graph, nodes []int) *classes {
	count := len(g.Nodes)
	c := &classes{of: make([]int, count), at: make([]int, count), uses: make([][]use, count)}
	c.begin(g, nodes)
	// At first all have moved, so that each list of Kids is looked at from its beginning to its end.
	moved := nodes
	for len(moved) > 0 {
		moved = c.part(moved)
	}
	return c
}

// begin parts the nodes by what is seen of them without their Kids.
func (c *classes) begin(g api.Graph, nodes []int) {
	var looks pairs[string, look]
	for _, node := range nodes {
		x := g.Nodes[node]
		class, isNew := looks.put(x.Tag, lookOf(x))
		if isNew {
			c.members = append(c.members, nil)
		}
		c.of[node], c.at[node] = class, len(c.members[class])
		c.members[class] = append(c.members[class], node)
		for place, kid := range x.Kids {
			c.uses[kid] = append(c.uses[kid], use{node, place})
		}
	}
}

// lookOf answers what is seen of x.
func lookOf(x api.Node) look {
	if x.Kind != api.NScalar {
		return look{kind: x.Kind}
	}
	v, e := schema.Value(x.Tag, x.Text)
	if e != api.OK {
		return look{kind: x.Kind, text: x.Text}
	}
	return look{kind: x.Kind, value: bare(v)}
}

// part parts the classes by those Kids of their nodes that have moved to another class, and answers the nodes that move by that. (At a place where nothing has moved, the Kids of one class's nodes are of one class already.)
func (c *classes) part(moved []int) []int {
	var behind []int
	list := c.changes(moved)
	for len(list) > 0 {
		class, count := list[0].class, 0
		for count < len(list) && list[count].class == class {
			count++
		}
		behind = append(behind, c.split(class, groups(list[:count]))...)
		list = list[count:]
	}
	return behind
}

// changes answers all places at which nodes that have moved are Kids, in the order of classes, nodes and places.
func (c *classes) changes(moved []int) []change {
	var list []change
	for _, kid := range moved {
		for _, u := range c.uses[kid] {
			list = append(list, change{c.of[u.node], u.node, u.place, c.of[kid]})
		}
	}
	slices.SortFunc(list, func(x, y change) int {
		return cmp.Or(cmp.Compare(x.class, y.class), cmp.Compare(x.node, y.node), cmp.Compare(x.place, y.place))
	})
	return list
}

// groups answers the nodes of list, those together that have the same changes; some groups may be empty.
func groups(list []change) [][]int {
	var parted [][]int
	var lists pairs[int, [2]int] // a list of changes, by its number, and one more behind it
	for len(list) > 0 {
		node, number := list[0].node, empty
		for len(list) > 0 && list[0].node == node {
			number, _ = lists.put(number, [2]int{list[0].place, list[0].to})
			list = list[1:]
		}
		for len(parted) <= number {
			parted = append(parted, nil)
		}
		parted[number] = append(parted[number], node)
	}
	return parted
}

// split takes the groups out of a class, and answers the nodes that are in another one by that.
func (c *classes) split(class int, groups [][]int) []int {
	for _, group := range groups {
		for _, node := range group {
			c.remove(node)
		}
	}
	rest := c.members[class]
	// The greatest part keeps the class: what moves comes into one of half the size at most, and so does not move often.
	kept := rest
	for at, group := range groups {
		if len(group) > len(kept) {
			groups[at], kept = kept, group
		}
	}
	if len(kept) > len(rest) {
		c.fill(class, kept)
	}
	var moved []int
	for _, group := range groups {
		if len(group) > 0 {
			c.members = append(c.members, nil)
			c.fill(len(c.members)-1, group)
			moved = append(moved, group...)
		}
	}
	return moved
}

// remove takes a node out of its class; it must be filled into one again.
func (c *classes) remove(node int) {
	list := c.members[c.of[node]]
	last := list[len(list)-1]
	list[c.at[node]], c.at[last] = last, c.at[node]
	c.members[c.of[node]] = list[:len(list)-1]
}

// fill makes the nodes those of a class.
func (c *classes) fill(class int, nodes []int) {
	c.members[class] = nodes
	for at, node := range nodes {
		c.of[node], c.at[node] = class, at
	}
}
