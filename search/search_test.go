package search_test

import (
	"encoding/binary"
	"fmt"
	"math"
	"math/rand"
	"slices"
	"testing"

	"paternoster/api"
	"paternoster/bound"
	"paternoster/plan"
	"paternoster/route"
	"paternoster/search"
)

const maxBudget = 1000000

// look is a search as the chapter tells it, whose nodes are a car and lists, copied for each.
type look struct {
	s             api.Snap
	budget        int
	best          api.Plan
	cost          int
	ended         bool
	marks         []byte
	better, equal int // how many leaves cost less than the best plan, or just that
}

// visit visits a node, and all behind it that are to be.
func (l *look) visit(car int, lists api.Plan) {
	if l.ended || len(l.marks) == l.budget {
		l.ended = true
		return
	}
	if len(slices.Concat(lists...)) == len(l.s.Wants) {
		l.leaf(lists)
		return
	}
	if least, _ := bound.Least(l.s, car, lists); least >= l.cost {
		l.marks = append(l.marks, 0)
		return
	}
	l.marks = append(l.marks, 1)
	for want, w := range l.s.Wants {
		if !slices.Contains(slices.Concat(lists...), want) && w.Cars&(1<<car) != 0 {
			child := slices.Clone(lists)
			child[car] = append(slices.Clone(lists[car]), want)
			l.visit(car, child)
		}
	}
	if car+1 < len(l.s.Cars) {
		l.visit(car+1, lists)
	}
}

func (l *look) leaf(lists api.Plan) {
	l.marks = append(l.marks, 2)
	cost, _ := route.Cost(l.s, lists)
	if cost < l.cost {
		l.best, l.cost = lists, cost
		l.better++
	} else if cost == l.cost {
		l.equal++
	}
}

// lookByWords searches as the chapter tells it.
func lookByWords(s api.Snap, budget int) *look {
	first := firstByWords(s)
	cost, _ := route.Cost(s, first)
	l := &look{s: s, budget: budget, best: first, cost: cost}
	l.visit(0, make(api.Plan, len(s.Cars)))
	return l
}

// result gives what was found, with its proof, as the chapter tells it.
func (l *look) result() search.Result {
	r := search.Result{Plan: l.best, Cost: l.cost, Complete: !l.ended, Nodes: len(l.marks), Proof: []byte{0}}
	if r.Complete {
		r.Proof[0] = 1
	}
	r.Proof = binary.BigEndian.AppendUint64(r.Proof, uint64(l.cost))
	for _, list := range l.best {
		r.Proof = append(r.Proof, byte(len(list)))
		for _, want := range list {
			r.Proof = append(r.Proof, byte(want))
		}
	}
	if r.Complete {
		r.Proof = append(r.Proof, l.marks...)
	}
	return r
}

// sameResult tells whether two results are one.
func sameResult(a, b search.Result) bool {
	return samePlan(a.Plan, b.Plan) && a.Cost == b.Cost && a.Complete == b.Complete && a.Nodes == b.Nodes && slices.Equal(a.Proof, b.Proof)
}

// hold holds Find to what it must find, twice.
func hold(t *testing.T, s api.Snap, budget int, want search.Result) {
	t.Helper()
	for range 2 {
		if got, e := search.Find(s, budget); e != api.OK || !sameResult(got, want) {
			t.Fatalf("%+v within %d: %+v, %d, not %+v", s, budget, got, e, want)
		}
	}
}

// TestFind: P12.1 of Find, and P2; of small snapshots all budgets that make a difference, and some that make none.
func TestFind(t *testing.T) {
	r := rand.New(rand.NewSource(12))
	better, equal, most := 0, 0, 0
	for _, c := range []struct{ cars, wants, rounds int }{
		{1, 0, 2}, {1, 1, 5}, {1, 2, 20}, {1, 3, 20}, {1, 4, 50}, {1, 5, 50}, {1, 6, 50},
		{2, 1, 10}, {2, 2, 40}, {2, 3, 40}, {2, 4, 50}, {2, 5, 50}, {2, 6, 20},
		{3, 1, 10}, {3, 2, 20}, {3, 3, 20}, {3, 4, 50}, {3, 5, 50}, {3, 6, 20},
		{4, 3, 10}, {8, 0, 2}, {8, 1, 5}, {8, 2, 5}, {8, 3, 20}, {8, 4, 20},
	} {
		for range c.rounds {
			s := random(r, c.cars, c.wants)
			all := lookByWords(s, maxBudget)
			nodes := len(all.marks)
			better, equal, most = better+all.better, equal+all.equal, max(most, nodes)
			for _, budget := range []int{nodes, nodes + 1, nodes + 1000, maxBudget - 1, maxBudget} {
				hold(t, s, min(budget, maxBudget), all.result())
			}
			for budget := 1; budget < min(nodes, 150); budget++ {
				hold(t, s, budget, lookByWords(s, budget).result())
			}
		}
	}
	if better < 500 || equal < 5 || most < 300 {
		t.Errorf("too little was looked at: %d leaves cost less, %d just that, %d nodes at most", better, equal, most)
	}
}

// TestFindByHand: P12.1 of Find, without a model; the document's example first.
// A stop takes 6 ticks; a way takes 2, and 2 for each floor.
func TestFindByHand(t *testing.T) {
	house := api.Site{Floors: 6, Cars: 2, Start: 1, Step: 2, Stop: 1, Open: 1, Wait: 2, Close: 1, Age: 1, Silent: 1, Budget: 1, Period: 1}
	two := []api.Ready{{Floor: 2}, {Floor: 2, After: 50}}
	for _, c := range []struct {
		name   string
		cars   []api.Ready
		wants  []api.Want
		budget int
		plan   string
		cost   int
		proof  []byte
		marks  []byte
	}{
		{"no wants", two, nil, 1, "[[] []]", 0, []byte{1, 0, 0, 0, 0, 0, 0, 0, 0, 0, 0}, []byte{2}},
		{"no wants, and one car", two[:1], nil, maxBudget, "[[]]", 0, []byte{1, 0, 0, 0, 0, 0, 0, 0, 0, 0}, []byte{2}},
		{"one want: the first plan is as good as can be", two[:1], []api.Want{{Floor: 4, Cars: 1}}, 1, "[[0]]", 6,
			[]byte{1, 0, 0, 0, 0, 0, 0, 0, 6, 1, 0}, []byte{0}},
		// 6 and 20 are the first plan's; the second want first: 4 and 18
		{"the nearer one first", two[:1], []api.Want{{Floor: 4, Cars: 1}, {Floor: 1, Cars: 1}}, 4, "[[1 0]]", 22,
			[]byte{1, 0, 0, 0, 0, 0, 0, 0, 22, 2, 1, 0}, []byte{1, 0, 1, 2}},
		// and a car behind, which may serve none of them: whoever leaves one of them to it needn't be looked at
		{"the nearer one first, of two cars", two, []api.Want{{Floor: 4, Cars: 1}, {Floor: 1, Cars: 1}}, 6, "[[1 0] []]", 22,
			[]byte{1, 0, 0, 0, 0, 0, 0, 0, 22, 2, 1, 0, 0}, []byte{1, 0, 1, 2, 0, 0}},
		{"a node too few", two, []api.Want{{Floor: 4, Cars: 1}, {Floor: 1, Cars: 1}}, 5, "[[1 0] []]", 22,
			[]byte{0, 0, 0, 0, 0, 0, 0, 0, 22, 2, 1, 0, 0}, nil},
		{"ended ahead of the better leaf", two, []api.Want{{Floor: 4, Cars: 1}, {Floor: 1, Cars: 1}}, 3, "[[0 1] []]", 26,
			[]byte{0, 0, 0, 0, 0, 0, 0, 0, 26, 2, 0, 1, 0}, nil},
		// the first plan gives both to the car 0, at 6 and 20; the other order costs 4 and 18; the car 1 serves the first want at 8
		{"a better leaf, and one of the car behind", []api.Ready{{Floor: 2}, {Floor: 3, After: 4}}, []api.Want{{Floor: 4, Cars: 3}, {Floor: 1, Cars: 1}}, 7, "[[1] [0]]", 12,
			[]byte{1, 0, 0, 0, 0, 0, 0, 0, 12, 1, 1, 1, 0}, []byte{1, 0, 1, 2, 1, 2, 0}},
		{"ended between two leaves", []api.Ready{{Floor: 2}, {Floor: 3, After: 4}}, []api.Want{{Floor: 4, Cars: 3}, {Floor: 1, Cars: 1}}, 4, "[[1 0] []]", 22,
			[]byte{0, 0, 0, 0, 0, 0, 0, 0, 22, 2, 1, 0, 0}, nil},
		// the other order costs 4 and 16 too, so the first plan stays the best one
		{"a leaf that costs the same", []api.Ready{{Floor: 2}, {Floor: 3, After: 5}}, []api.Want{{Floor: 3, Cars: 3}, {Floor: 1, Cars: 1}}, 4, "[[0 1] []]", 20,
			[]byte{0, 0, 0, 0, 0, 0, 0, 0, 20, 2, 0, 1, 0}, nil},
		{"a cost of three bytes", []api.Ready{{Floor: 2, After: 1000000}}, []api.Want{{Floor: 2, Cars: 1}}, 9, "[[0]]", 1000000,
			[]byte{1, 0, 0, 0, 0, 0, 15, 66, 64, 1, 0}, []byte{0}},
	} {
		t.Run(c.name, func(t *testing.T) {
			s := api.Snap{Site: house, Cars: c.cars, Wants: c.wants}
			s.Site.Cars = len(c.cars)
			nodes := c.budget
			if c.marks != nil {
				nodes = len(c.marks)
			}
			r, e := search.Find(s, c.budget)
			if e != api.OK || fmt.Sprint(r.Plan) != c.plan || r.Cost != c.cost || r.Complete != (c.marks != nil) || r.Nodes != nodes || !slices.Equal(r.Proof, slices.Concat(c.proof, c.marks)) {
				t.Errorf("%+v, %d", r, e)
			}
		})
	}
}

// TestFindIsLeast: P12.2; all feasible plans are looked at.
func TestFindIsLeast(t *testing.T) {
	r := rand.New(rand.NewSource(122))
	short := 0
	for _, c := range []struct{ cars, wants, rounds int }{{1, 5, 20}, {1, 6, 5}, {2, 4, 40}, {2, 5, 10}, {3, 4, 20}, {4, 3, 20}, {8, 3, 5}} {
		for range c.rounds {
			s := random(r, c.cars, c.wants)
			least := api.Limit
			for p := range plan.All(s) {
				cost, _ := route.Cost(s, p)
				least = min(least, cost)
			}
			for _, budget := range []int{1, 2, 5, 10, 30, 100, 1000, maxBudget} {
				got, e := search.Find(s, budget)
				holdSound(t, s, budget, got)
				if e != api.OK || got.Cost < least || got.Complete && got.Cost != least || budget == maxBudget && !got.Complete {
					t.Fatalf("%+v within %d: %+v, %d, and the least cost is %d", s, budget, got, e, least)
				}
				if got.Cost > least {
					short++
				}
			}
		}
	}
	if short < 50 {
		t.Errorf("only %d searches ended too soon", short)
	}
}

// holdSound holds a result to what each must be: a feasible plan, its cost, no more nodes than the budget.
func holdSound(t *testing.T, s api.Snap, budget int, got search.Result) {
	t.Helper()
	first, _ := search.First(s)
	most, _ := route.Cost(s, first)
	cost, e := route.Cost(s, got.Plan)
	if e != api.OK || !plan.Feasible(s, got.Plan) || got.Cost != cost || cost > most || got.Nodes < 1 || got.Nodes > budget || !got.Complete && got.Nodes != budget {
		t.Fatalf("%+v within %d: %+v, which costs %d", s, budget, got, cost)
	}
}

// TestFindMiddling: P12.1 and P12.2; searches of some thousand nodes, from the beginning to the end.
func TestFindMiddling(t *testing.T) {
	r := rand.New(rand.NewSource(1200))
	most := 0
	for _, c := range []struct{ cars, wants int }{{1, 10}, {2, 9}, {3, 9}, {3, 10}, {5, 9}, {8, 9}} {
		s := random(r, c.cars, c.wants)
		all := lookByWords(s, maxBudget)
		most = max(most, len(all.marks))
		hold(t, s, maxBudget, all.result())
		hold(t, s, len(all.marks), all.result())
		if half := len(all.marks) / 2; half > 0 {
			hold(t, s, half, lookByWords(s, half).result())
		}
	}
	if most < 5000 {
		t.Errorf("%d nodes at most", most)
	}
}

// TestFindGreat: P12.1 and P12.2 at the limits of cars and wants.
func TestFindGreat(t *testing.T) {
	r := rand.New(rand.NewSource(128))
	for _, cars := range []int{1, 2, 8} {
		for range 3 {
			s := random(r, cars, 128)
			s.Site.Floors = 64
			for n := range s.Wants {
				s.Wants[n].Floor = r.Intn(64)
			}
			for _, budget := range []int{1, 2, 127, 128, 129, 130, 700} {
				hold(t, s, budget, lookByWords(s, budget).result())
			}
		}
	}
}

// TestFindWhole: P1 and P12.2; the greatest budget at the limits of cars and wants.
func TestFindWhole(t *testing.T) {
	s := random(rand.New(rand.NewSource(129)), 8, 128)
	got, e := search.Find(s, maxBudget)
	holdSound(t, s, maxBudget, got)
	if e != api.OK || got.Complete || len(got.Proof) != 1+8+8+128 || got.Proof[0] != 0 {
		t.Errorf("%t, %d bytes, %d", got.Complete, len(got.Proof), e)
	}
}

// TestFindGreatest: P12.1; the greatest time, a list of all wants, and a proof of them.
func TestFindGreatest(t *testing.T) {
	s := api.Snap{Site: building(1), Cars: []api.Ready{{Floor: 0, After: 1000000}}}
	s.Site.Floors, s.Site.Start, s.Site.Step, s.Site.Stop = 64, 1000, 1000, 1000
	s.Site.Open, s.Site.Wait, s.Site.Close = 1000, 1000, 1000
	for n := range 128 {
		s.Wants = append(s.Wants, api.Want{Floor: 63 * (1 - n%2), Cars: 1})
	}
	got, e := search.Find(s, 1)
	cost := 128*1065000 + 68002*127*64
	proof := binary.BigEndian.AppendUint64([]byte{0}, uint64(cost))
	proof = append(proof, 128)
	for n := range 128 {
		proof = append(proof, byte(n))
	}
	if e != api.OK || got.Cost != cost || got.Nodes != 1 || got.Complete || !slices.Equal(got.Proof, proof) || len(got.Plan) != 1 || len(got.Plan[0]) != 128 {
		t.Errorf("%+v, %d", got, e)
	}
	// All at one floor: whatever their order is they are served at once, so the first plan is shown by one node.
	for n := range s.Wants {
		s.Wants[n].Floor = 63
	}
	got, e = search.Find(s, 1)
	if e != api.OK || got.Cost != 128*1065000 || got.Nodes != 1 || !got.Complete || len(got.Proof) != 1+8+129+1 || got.Proof[138] != 0 {
		t.Errorf("%+v, %d", got, e)
	}
}

// TestBudgets: P12.1; which budgets may be, however good the snapshot is.
func TestBudgets(t *testing.T) {
	for _, s := range []api.Snap{random(rand.New(rand.NewSource(1)), 2, 3), random(rand.New(rand.NewSource(1)), 1, 0), {}} {
		for _, budget := range []int{0, -1, maxBudget + 1, maxBudget * 2, 1 << 32, 1<<32 + 1, math.MinInt, math.MaxInt} {
			if got, e := search.Find(s, budget); e != api.ErrArg || !isNothing(got) {
				t.Errorf("%d: %+v, %d", budget, got, e)
			}
		}
	}
	// The site's own Budget isn't asked for.
	s := random(rand.New(rand.NewSource(3)), 3, 5)
	all := lookByWords(s, maxBudget).result()
	for _, budget := range []int{1, 2, 1000000} {
		s.Site.Budget = budget
		hold(t, s, maxBudget, all)
	}
}

// isNothing tells whether a result is its zero value.
func isNothing(r search.Result) bool {
	return len(r.Plan) == 0 && r.Cost == 0 && !r.Complete && r.Nodes == 0 && len(r.Proof) == 0
}

// TestWrongSnaps: P12.1; of a snapshot that isn't right nothing is answered, and none panics.
func TestWrongSnaps(t *testing.T) {
	for name, turn := range map[string]func(*api.Snap){
		"nothing":               func(s *api.Snap) { *s = api.Snap{} },
		"no cars":               func(s *api.Snap) { s.Cars = nil },
		"no cars in the site":   func(s *api.Snap) { s.Cars, s.Site.Cars, s.Wants = nil, 0, nil },
		"a car too few":         func(s *api.Snap) { s.Cars = s.Cars[:2] },
		"a car too many":        func(s *api.Snap) { s.Cars = append(s.Cars, api.Ready{}) },
		"nine cars":             func(s *api.Snap) { s.Site.Cars, s.Cars = 9, make([]api.Ready, 9) },
		"a car above":           func(s *api.Snap) { s.Cars[2].Floor = s.Site.Floors },
		"a car below":           func(s *api.Snap) { s.Cars[0].Floor = -1 },
		"a car ready ahead":     func(s *api.Snap) { s.Cars[1].After = -1 },
		"a car ready too late":  func(s *api.Snap) { s.Cars[1].After = 1000001 },
		"a want above":          func(s *api.Snap) { s.Wants[3].Floor = s.Site.Floors },
		"a want below":          func(s *api.Snap) { s.Wants[3].Floor = math.MinInt },
		"a want without cars":   func(s *api.Snap) { s.Wants[0].Cars = 0 },
		"a car that isn't":      func(s *api.Snap) { s.Wants[0].Cars = 15 },
		"all bits":              func(s *api.Snap) { s.Wants[0].Cars = -1 },
		"a site without Age":    func(s *api.Snap) { s.Site.Age = 0 },
		"a site without steps":  func(s *api.Snap) { s.Site.Step = 0 },
		"a site without Budget": func(s *api.Snap) { s.Site.Budget = 0 },
		"a site of 65 floors":   func(s *api.Snap) { s.Site.Floors = 65 },
		"129 wants":             func(s *api.Snap) { s.Wants = slices.Repeat(s.Wants[:1], 129) },
		"far too many wants":    func(s *api.Snap) { s.Wants = slices.Repeat(s.Wants, 1<<16) },
	} {
		s := random(rand.New(rand.NewSource(7)), 3, 5)
		if p, e := search.First(s); e != api.OK || len(p) != 3 {
			t.Fatalf("%+v: %v, %d", s, p, e)
		}
		turn(&s)
		if p, e := search.First(s); e != api.ErrArg || len(p) != 0 {
			t.Errorf("%s: %v, %d", name, p, e)
		}
		for _, budget := range []int{1, 100, maxBudget, 0} {
			if got, e := search.Find(s, budget); e != api.ErrArg || !isNothing(got) {
				t.Errorf("%s within %d: %+v, %d", name, budget, got, e)
			}
		}
	}
}

// TestFindIsNew: rule 4 of Find; what is handed in isn't changed, in the room behind its end neither; what is answered is new, and its lists share nothing.
func TestFindIsNew(t *testing.T) {
	whole := random(rand.New(rand.NewSource(4)), 3, 7)
	before := copyOf(whole)
	s := whole
	s.Wants = whole.Wants[:6]
	for _, budget := range []int{1, 20, maxBudget} {
		want := lookByWords(s, budget).result()
		one, _ := search.Find(s, budget)
		other, _ := search.Find(s, budget)
		if !sameResult(one, want) {
			t.Fatalf("%+v, not %+v", one, want)
		}
		holdApart(t, one.Plan)
		if !slices.Equal(one.Proof, want.Proof) {
			t.Error("the proof and the plan share memory")
		}
		for i := range one.Proof {
			one.Proof[i] = 99
		}
		if again, _ := search.Find(s, budget); !sameResult(again, want) || !sameResult(other, want) || !same(whole, before) {
			t.Errorf("%+v and %+v, not %+v; %+v", other, again, want, whole)
		}
	}
}
