package search

import (
	"slices"

	"paternoster/api"
	"paternoster/bound"
	"paternoster/num"
	"paternoster/route"
)

// noWant is the want of a node at which no list has grown.
const noWant = -1

// node is a beginning, told by the node whose child it is, and by what it has more than that.
type node struct {
	parent *node // nil of the first node
	car    int
	want   int        // the last one of the car's list, if that has grown
	at     route.Stop // where the car is behind its list
	cost   int        // of the wants that stand in the lists
	left   int        // how many don't
	stands [api.MaxCalls]bool
}

// tree is all nodes of a right snapshot.
type tree struct {
	snap api.Snap
	// behind has, for each car, the least time of each want that is left to the cars behind it: their lists are empty at each of its nodes, so it is one at them all.
	behind [][]int
}

// newTree gives a snapshot's tree.
func newTree(s api.Snap) *tree {
	t := &tree{s, make([][]int, len(s.Cars))}
	for car := range t.behind {
		t.behind[car] = make([]int, len(s.Wants))
		for place, want := range s.Wants {
			t.behind[car][place] = leastAlone(s, car+1, want)
		}
	}
	return t
}

// leastAlone gives the least time of a want that a car, or one behind it, serves first of all.
func leastAlone(s api.Snap, car int, want api.Want) int {
	s.Wants = []api.Want{want}
	time, e := bound.Least(s, car, make(api.Plan, len(s.Cars)))
	if e != api.OK {
		return api.Limit // behind the last car there is none
	}
	return time
}

// first gives the first node: the car 0, without lists.
func (t *tree) first() node {
	return node{want: noWant, at: route.Begin(t.snap.Cars[0]), left: len(t.snap.Wants)}
}

// least gives a node's least cost, which is bound.Least of its lists. That begins anew with each list; a node is a step from its parent.
func (t *tree) least(n node) int {
	total := n.cost
	for place, want := range t.snap.Wants {
		if n.stands[place] {
			continue
		}
		time := t.behind[n.car][place]
		if has(want, n.car) {
			time = min(time, route.Next(t.snap.Site, n.at, want.Floor).Here)
		}
		total = num.Add(total, time)
	}
	return total
}

// children goes through a node's children, in their order.
func (t *tree) children(parent *node) func(func(node) bool) {
	return func(yield func(node) bool) {
		for place, want := range t.snap.Wants {
			if !parent.stands[place] && has(want, parent.car) && !yield(t.grown(parent, place)) {
				return
			}
		}
		if parent.car+1 < len(t.snap.Cars) {
			yield(t.nextCar(parent))
		}
	}
}

// grown gives the child with a want at the end of the car's list.
func (t *tree) grown(parent *node, place int) node {
	n := *parent
	n.parent, n.want = parent, place
	n.at = route.Next(t.snap.Site, n.at, t.snap.Wants[place].Floor)
	n.cost = num.Add(n.cost, n.at.Here)
	n.left--
	n.stands[place] = true
	return n
}

// nextCar gives the child with the same lists, and the next car.
func (t *tree) nextCar(parent *node) node {
	n := *parent
	n.parent, n.want = parent, noWant
	n.car++
	n.at = route.Begin(t.snap.Cars[n.car])
	return n
}

// push puts a node's children onto the open ones, the last child first: the last open one is visited next.
func (t *tree) push(open []node, parent node) []node {
	from := len(open)
	for child := range t.children(&parent) {
		open = append(open, child)
	}
	slices.Reverse(open[from:])
	return open
}

// lists gives a node's lists.
func (t *tree) lists(n node) api.Plan {
	p := make(api.Plan, len(t.snap.Cars))
	for at := &n; at != nil; at = at.parent {
		if at.want != noWant {
			p[at.car] = append(p[at.car], at.want)
		}
	}
	for _, list := range p {
		slices.Reverse(list)
	}
	return p
}
