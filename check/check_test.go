package check_test

import (
	"encoding/binary"
	"fmt"
	"math/rand"
	"slices"
	"testing"

	"paternoster/api"
	"paternoster/bound"
	"paternoster/check"
	"paternoster/plan"
	"paternoster/route"
	"paternoster/search"
)

const maxBudget = 1000000

// random gives a right snapshot of so many cars and wants; its floors are few, so that wants share them, and many plans cost the same.
func random(r *rand.Rand, cars, wants int) api.Snap {
	s := api.Snap{Site: api.Site{
		Floors: 2 + r.Intn(5), Cars: cars,
		Start: r.Intn(3), Step: 1 + r.Intn(3), Stop: r.Intn(3),
		Open: 1 + r.Intn(3), Wait: 1 + r.Intn(3), Close: 1 + r.Intn(3),
		Age: 1, Silent: 1, Budget: 1, Period: 1,
	}}
	for range cars {
		s.Cars = append(s.Cars, api.Ready{Floor: r.Intn(s.Site.Floors), After: r.Intn(20)})
	}
	for range wants {
		s.Wants = append(s.Wants, api.Want{Floor: r.Intn(s.Site.Floors), Cars: 1 + r.Intn(1<<cars-1)})
	}
	return s
}

// great gives a right snapshot at the limits of cars and wants, whose wants stand on all floors, and have all cars.
func great() api.Snap {
	s := random(rand.New(rand.NewSource(128)), 8, 128)
	s.Site.Floors = 64
	for place := range s.Wants {
		s.Wants[place] = api.Want{Floor: place % 64, Cars: 255}
	}
	return s
}

// head gives the bytes ahead of the marks.
func head(kind byte, cost int, p api.Plan) []byte {
	proof := binary.BigEndian.AppendUint64([]byte{kind}, uint64(cost))
	for _, list := range p {
		proof = append(proof, byte(len(list)))
		for _, want := range list {
			proof = append(proof, byte(want))
		}
	}
	return proof
}

// beginning is a node as the chapter tells it.
type beginning struct {
	car   int
	lists api.Plan
}

// left gives the wants that stand in no list.
func (b beginning) left(s api.Snap) []int {
	var left []int
	for want := range s.Wants {
		if !slices.Contains(slices.Concat(b.lists...), want) {
			left = append(left, want)
		}
	}
	return left
}

// children gives a node's children, in their order.
func (b beginning) children(s api.Snap) []beginning {
	var all []beginning
	for _, want := range b.left(s) {
		if s.Wants[want].Cars&(1<<b.car) != 0 {
			lists := slices.Clone(b.lists)
			lists[b.car] = append(slices.Clone(lists[b.car]), want)
			all = append(all, beginning{b.car, lists})
		}
	}
	if b.car+1 < len(s.Cars) {
		all = append(all, beginning{b.car + 1, b.lists})
	}
	return all
}

// marksHold tells whether marks show that no plan costs less, by the nodes that are still to be visited, the next one first.
func marksHold(s api.Snap, cost int, marks []byte) bool {
	open := []beginning{{0, make(api.Plan, len(s.Cars))}}
	for _, mark := range marks {
		if len(open) == 0 || mark > 2 {
			return false
		}
		n := open[0]
		open = open[1:]
		least, _ := bound.Least(s, n.car, n.lists) // of a node without wants left it is what its lists cost
		isLeaf := len(n.left(s)) == 0
		if mark == 1 && isLeaf || mark == 2 && !isLeaf || mark != 1 && least < cost {
			return false
		}
		if mark == 1 {
			open = append(n.children(s), open...)
		}
	}
	return len(open) == 0
}

// checkByWords tells what a proof shows, as the chapter tells it.
func checkByWords(s api.Snap, proof []byte) (check.Claim, api.Errno) {
	if !plan.Right(s) {
		return check.Claim{}, api.ErrArg
	}
	if len(proof) < 9 || proof[0] > 1 || binary.BigEndian.Uint64(proof[1:9]) > 1<<40 {
		return check.Claim{}, api.ErrForm
	}
	cost := int(binary.BigEndian.Uint64(proof[1:9]))
	p := api.Plan{}
	place := 9
	for range s.Cars {
		if place >= len(proof) || place+int(proof[place]) >= len(proof) {
			return check.Claim{}, api.ErrForm
		}
		var list []int
		for i := range int(proof[place]) {
			list = append(list, int(proof[place+1+i]))
		}
		p = append(p, list)
		place += 1 + len(list)
	}
	if proof[0] == 0 && place < len(proof) {
		return check.Claim{}, api.ErrForm
	}
	if !plan.Feasible(s, p) {
		return check.Claim{}, api.ErrPlan
	}
	if real, _ := route.Cost(s, p); real != cost || proof[0] == 1 && !marksHold(s, cost, proof[place:]) {
		return check.Claim{}, api.ErrProof
	}
	return check.Claim{Best: proof[0] == 1, Cost: cost, Plan: p}, api.OK
}

// sameClaim tells whether two claims are one.
func sameClaim(a, b check.Claim) bool {
	return a.Best == b.Best && a.Cost == b.Cost && slices.EqualFunc(a.Plan, b.Plan, slices.Equal)
}

// hold holds Check to what it must tell, twice, and gives that.
func hold(t *testing.T, s api.Snap, proof []byte) (check.Claim, api.Errno) {
	t.Helper()
	want, wantE := checkByWords(s, proof)
	for range 2 {
		if got, e := check.Check(s, proof); e != wantE || !sameClaim(got, want) {
			t.Fatalf("%+v, %v: %+v, %d, not %+v, %d", s, proof, got, e, want, wantE)
		}
	}
	return want, wantE
}

// turned gives bytes that differ a little from a proof: one of them is another, is missing, is there twice, or changes its place; or they end too soon, or too late.
func turned(proof []byte) [][]byte {
	var all [][]byte
	for i, b := range proof {
		for _, other := range []byte{0, 1, 2, 3, 4, 128, 255, b + 1, b - 1, b ^ 128} {
			changed := slices.Clone(proof)
			changed[i] = other
			all = append(all, changed)
		}
		all = append(all, proof[:i], slices.Delete(slices.Clone(proof), i, i+1), slices.Insert(slices.Clone(proof), i, b))
		if i > 0 {
			swapped := slices.Clone(proof)
			swapped[i-1], swapped[i] = b, proof[i-1]
			all = append(all, swapped)
		}
	}
	for _, more := range []byte{0, 1, 2, 255} {
		all = append(all, append(slices.Clone(proof), more))
	}
	return all
}

// TestCheckTurned: P13.1, P2, and the second part of P13.2; proofs of small snapshots, and what is a little other than they are.
func TestCheckTurned(t *testing.T) {
	r := rand.New(rand.NewSource(13))
	count := map[api.Errno]int{}
	best := 0
	for _, c := range []struct{ cars, wants, rounds int }{
		{1, 0, 2}, {1, 1, 5}, {1, 2, 10}, {1, 3, 10}, {1, 4, 10}, {2, 0, 2}, {2, 1, 5}, {2, 2, 10}, {2, 3, 20}, {2, 4, 10},
		{3, 2, 10}, {3, 3, 20}, {3, 4, 10}, {4, 3, 5}, {8, 0, 1}, {8, 2, 5}, {8, 3, 5},
	} {
		for range c.rounds {
			s := random(r, c.cars, c.wants)
			for _, budget := range []int{1, 3, maxBudget} {
				found, _ := search.Find(s, budget)
				got, e := hold(t, s, found.Proof)
				if want := (check.Claim{Best: found.Complete, Cost: found.Cost, Plan: found.Plan}); e != api.OK || !sameClaim(got, want) {
					t.Fatalf("%+v: %+v, %d, not %+v", s, got, e, want)
				}
				for _, proof := range turned(found.Proof) {
					claim, e := hold(t, s, proof)
					count[e]++
					if claim.Best {
						best++
					}
				}
			}
		}
	}
	if count[api.OK] < 500 || count[api.ErrForm] < 5000 || count[api.ErrPlan] < 5000 || count[api.ErrProof] < 5000 || best < 300 {
		t.Errorf("too little was looked at: %v, %d best", count, best)
	}
}

// TestCheckByHand: P13.1, without a model; the document's example first.
// A stop takes 6 ticks; a way takes 2, and 2 for each floor. The plan {1, 0} costs 4 and 18, {0, 1} costs 6 and 20.
func TestCheckByHand(t *testing.T) {
	house := api.Site{Floors: 6, Cars: 2, Start: 1, Step: 2, Stop: 1, Open: 1, Wait: 2, Close: 1, Age: 1, Silent: 1, Budget: 1, Period: 1}
	none := api.Snap{Site: house, Cars: []api.Ready{{Floor: 2}, {Floor: 2, After: 50}}}
	two := none
	two.Wants = []api.Want{{Floor: 4, Cars: 1}, {Floor: 1, Cars: 1}}
	both := none // whatever the car 1 serves, it serves it at 50 or later
	both.Wants = []api.Want{{Floor: 2, Cars: 3}, {Floor: 2, Cars: 2}}
	good := []byte{1, 0, 0, 0, 0, 0, 0, 0, 22, 2, 1, 0, 0}
	bad := []byte{1, 0, 0, 0, 0, 0, 0, 0, 26, 2, 0, 1, 0}
	split := []byte{1, 0, 0, 0, 0, 0, 0, 0, 50, 1, 0, 1, 1}
	behind := []byte{1, 0, 0, 0, 0, 0, 0, 0, 100, 0, 2, 0, 1}
	for _, c := range []struct {
		name  string
		s     api.Snap
		head  []byte
		marks []byte
		want  api.Errno
	}{
		{"no wants", none, []byte{1, 0, 0, 0, 0, 0, 0, 0, 0, 0, 0}, []byte{2}, api.OK},
		{"no wants, and a node that is cut", none, []byte{1, 0, 0, 0, 0, 0, 0, 0, 0, 0, 0}, []byte{0}, api.OK},
		{"no wants, and a node that isn't cut", none, []byte{1, 0, 0, 0, 0, 0, 0, 0, 0, 0, 0}, []byte{1}, api.ErrProof},
		{"no wants, and children", none, []byte{1, 0, 0, 0, 0, 0, 0, 0, 0, 0, 0}, []byte{1, 2}, api.ErrProof},
		{"no wants, and a mark too many", none, []byte{1, 0, 0, 0, 0, 0, 0, 0, 0, 0, 0}, []byte{2, 2}, api.ErrProof},
		{"no wants, and a cost", none, []byte{1, 0, 0, 0, 0, 0, 0, 0, 1, 0, 0}, []byte{2}, api.ErrProof},
		{"as the search writes it", two, good, []byte{1, 0, 1, 2, 0, 0}, api.OK},
		{"all nodes", two, good, []byte{1, 1, 2, 1, 1, 2, 1, 1}, api.OK},
		{"all nodes, with leaves that are cut", two, good, []byte{1, 1, 0, 1, 1, 0, 1, 1}, api.OK},
		{"no more than needed", two, good, []byte{1, 0, 0, 0}, api.OK},
		{"a last car that may serve nothing, and has no children", two, good, []byte{1, 0, 0, 1}, api.OK},
		{"the first node cut", two, good, []byte{0}, api.ErrProof},
		{"the first node without a mark", two, good, nil, api.ErrProof},
		{"the last node without a mark", two, good, []byte{1, 0, 1, 2, 0}, api.ErrProof},
		{"a mark for no node", two, good, []byte{1, 0, 1, 2, 0, 0, 0}, api.ErrProof},
		{"a mark for no node behind a cut one", two, good, []byte{1, 0, 2, 1, 2, 0, 0}, api.ErrProof},
		{"a mark that isn't one", two, good, []byte{1, 0, 1, 3, 0, 0}, api.ErrProof},
		{"a mark that is far from one", two, good, []byte{1, 0, 1, 2, 0, 255}, api.ErrProof},
		{"a mark that is 2 in its lowest bits", two, good, []byte{1, 0, 1, 6, 0, 0}, api.ErrProof},
		{"a leaf that isn't one", two, good, []byte{1, 2, 1, 2, 0, 0}, api.ErrProof},
		{"a leaf with children", two, good, []byte{1, 0, 1, 1, 0, 0}, api.ErrProof},
		{"another plan: the first node cut", two, bad, []byte{0}, api.ErrProof},
		{"another plan: marks of the best one", two, bad, []byte{1, 0, 1, 2, 0, 0}, api.ErrProof},
		{"another plan: the better leaf cut", two, bad, []byte{1, 0, 1, 0, 0, 0}, api.ErrProof},
		{"another plan: what leads to the better leaf cut", two, bad, []byte{1, 0, 0, 0}, api.ErrProof},
		{"a want of each car", both, split, []byte{0}, api.OK},
		{"a want of each car, and all nodes", both, split, []byte{1, 1, 1, 2, 1, 1, 2, 1, 2}, api.OK},
		{"a car that could serve, and doesn't", both, behind, []byte{0}, api.ErrProof},
		{"a car that could serve, and doesn't: all nodes", both, behind, []byte{1, 1, 1, 2, 1, 1, 2, 1, 2}, api.ErrProof},
	} {
		t.Run(c.name, func(t *testing.T) {
			got, e := check.Check(c.s, slices.Concat(c.head, c.marks))
			if e != c.want || e == api.OK && (!got.Best || got.Cost != int(c.head[8])) || e != api.OK && (got.Best || got.Cost != 0 || len(got.Plan) != 0) {
				t.Errorf("%+v, %d", got, e)
			}
			// Without marks nothing is asked of the nodes.
			short := slices.Clone(c.head)
			short[0] = 0
			got, e = check.Check(c.s, short)
			if c.name != "no wants, and a cost" && (e != api.OK || got.Best || got.Cost != int(short[8])) {
				t.Errorf("without marks: %+v, %d", got, e)
			}
		})
	}
	got, e := check.Check(two, slices.Concat(good, []byte{1, 0, 1, 2, 0, 0}))
	if e != api.OK || fmt.Sprint(got) != "{true 22 [[1 0] []]}" {
		t.Errorf("%v, %d", got, e)
	}
	behind[0] = 0
	// The car 1 serves both at its floor, at once.
	if got, e := check.Check(both, behind); e != api.OK || fmt.Sprint(got) != "{false 100 [[] [0 1]]}" {
		t.Errorf("%v, %d", got, e)
	}
}
