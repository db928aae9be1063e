package check

import (
	"paternoster/api"
	"paternoster/site"
)

const (
	// noStop is when a car came to its last stop, if there was none.
	noStop = -1
	// extra is what a stop takes besides its door's ticks.
	extra = 2
)

// The marks of nodes.
const (
	markCut    = iota // its children needn't be looked at
	markBranch        // its children are looked at
	markLeaf          // no wants are left
)

// way is a car on its way: the floor of its last stop, when it came there, and when it goes on.
type way struct{ floor, here, leave int }

// node is a beginning: the car whose list grows, where each car is behind its list, and which wants stand in the lists.
type node struct {
	car    int
	cars   []way
	cost   int // of the wants that stand in the lists
	left   int // how many don't
	stands [api.MaxCalls]bool
}

// tree is all nodes of a right snapshot, whose times and costs are all far below the limit: so they are summed as they are.
type tree struct {
	snap   api.Snap
	travel [][]int
	stop   int // the ticks of a stop
}

// newTree gives a snapshot's tree.
func newTree(s api.Snap) *tree {
	return &tree{s, site.Table(s.Site), s.Site.Open + s.Site.Wait + s.Site.Close + extra}
}

// next gives a car behind one stop more.
func (t *tree) next(at way, floor int) way {
	if at.here != noStop && at.floor == floor {
		return at
	}
	here := at.leave + t.travel[at.floor][floor]
	return way{floor, here, here + t.stop}
}

// first gives the first node: the car 0, without lists.
func (t *tree) first() node {
	n := node{cars: make([]way, len(t.snap.Cars)), left: len(t.snap.Wants)}
	for car, ready := range t.snap.Cars {
		n.cars[car] = way{ready.Floor, noStop, ready.After}
	}
	return n
}

// grown gives the child with a want at the end of the car's list. The cars are copied, as the node's other children begin with where they are now.
func (t *tree) grown(n node, place int) node {
	cars := make([]way, len(n.cars))
	copy(cars, n.cars)
	cars[n.car] = t.next(cars[n.car], t.snap.Wants[place].Floor)
	n.cost += cars[n.car].here
	n.cars = cars
	n.left--
	n.stands[place] = true
	return n
}

// nextCar gives the child with the same lists, and the next car.
func nextCar(n node) node {
	n.car++
	return n
}

// cost gives what a feasible plan costs.
func (t *tree) cost(p api.Plan) int {
	n := t.first()
	for car, list := range p {
		n.car = car
		for _, place := range list {
			n = t.grown(n, place)
		}
	}
	return n.cost
}

// least gives a node's least cost.
func (t *tree) least(n node) int {
	total := n.cost
	for place, want := range t.snap.Wants {
		if n.stands[place] {
			continue
		}
		time := t.earliest(n, want)
		if time == api.Limit {
			return api.Limit
		}
		total += time
	}
	return total
}

// earliest gives the least time of a want that a node's car serves next, or one behind it serves first; Limit, if none of them may.
func (t *tree) earliest(n node, want api.Want) int {
	time := api.Limit
	for car := n.car; car < len(n.cars); car++ {
		if has(want, car) {
			time = min(time, t.next(n.cars[car], want.Floor).here)
		}
	}
	return time
}

// shows tells whether marks show that no plan costs less.
func (t *tree) shows(cost int, marks reader) bool {
	return t.look(t.first(), cost, &marks) && len(marks.rest) == 0
}

// look takes a node's mark, and those of all nodes behind it, and tells whether they hold.
func (t *tree) look(n node, cost int, marks *reader) bool {
	mark, ok := marks.take(1)
	if !ok {
		return false
	}
	switch mark[0] {
	case markCut:
		return t.least(n) >= cost
	case markBranch:
		return n.left > 0 && t.lookBehind(n, cost, marks)
	case markLeaf:
		return n.left == 0 && n.cost >= cost
	}
	return false
}

// lookBehind looks at a node's children, in their order. Each is made when its turn comes: there may be a mark for none of the others.
func (t *tree) lookBehind(n node, cost int, marks *reader) bool {
	for place, want := range t.snap.Wants {
		if !n.stands[place] && has(want, n.car) && !t.look(t.grown(n, place), cost, marks) {
			return false
		}
	}
	return n.car+1 == len(n.cars) || t.look(nextCar(n), cost, marks)
}

// has tells whether a car may serve a want.
func has(want api.Want, car int) bool { return want.Cars>>car&1 == 1 }
