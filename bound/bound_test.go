package bound_test

import (
	"math"
	"math/rand"
	"slices"
	"testing"

	"paternoster/api"
	"paternoster/bound"
	"paternoster/plan"
	"paternoster/route"
)

const limit = api.Limit

// building gives a right site of so many cars, with nine floors: 9 ticks and 3 for each floor on the way, and 24 of a stop.
func building(cars int) api.Site {
	return api.Site{Floors: 9, Cars: cars, Start: 5, Step: 3, Stop: 4, Open: 5, Wait: 11, Close: 6, Nudge: 2, Age: 500, Silent: 20, Budget: 700, Period: 17}
}

// ordinary gives a right snapshot of three cars, with a want of all cars, one of each car alone, and one of the last two.
func ordinary() api.Snap {
	return api.Snap{
		Site:  building(3),
		Cars:  []api.Ready{{Floor: 1, After: 3}, {Floor: 8}, {Floor: 4, After: 100}},
		Wants: []api.Want{{Floor: 3, Cars: 7}, {Floor: 1, Cars: 1}, {Floor: 3, Cars: 2}, {Floor: 0, Cars: 4}, {Floor: 5, Cars: 6}},
	}
}

// random gives a right snapshot of so many cars and wants; its floors are few, so that wants share them.
func random(r *rand.Rand, cars, wants int) api.Snap {
	s := api.Snap{Site: building(cars)}
	s.Site.Floors = 2 + r.Intn(4)
	s.Site.Start, s.Site.Step, s.Site.Stop = r.Intn(9), 1+r.Intn(9), r.Intn(9)
	s.Site.Open, s.Site.Wait, s.Site.Close = 1+r.Intn(9), 1+r.Intn(9), 1+r.Intn(9)
	for range cars {
		s.Cars = append(s.Cars, api.Ready{Floor: r.Intn(s.Site.Floors), After: r.Intn(40)})
	}
	for range wants {
		s.Wants = append(s.Wants, api.Want{Floor: r.Intn(s.Site.Floors), Cars: 1 + r.Intn(1<<cars-1)})
	}
	return s
}

// copyOf gives a snapshot that shares no list with another one.
func copyOf(s api.Snap) api.Snap {
	s.Cars, s.Wants = slices.Clone(s.Cars), slices.Clone(s.Wants)
	return s
}

// same tells whether two snapshots are one.
func same(a, b api.Snap) bool {
	return a.Site == b.Site && slices.Equal(a.Cars, b.Cars) && slices.Equal(a.Wants, b.Wants)
}

// writings gives all lists of such a length whose numbers are least to most.
func writings(length, least, most int) [][]int {
	if length == 0 {
		return [][]int{nil}
	}
	var all [][]int
	for _, list := range writings(length-1, least, most) {
		for n := least; n <= most; n++ {
			all = append(all, append(slices.Clone(list), n))
		}
	}
	return all
}

// cut makes a writing lists: one ends where the mark stands, and the last one with the writing.
func cut(writing []int, mark int) api.Plan {
	p := api.Plan{nil}
	for _, n := range writing {
		if n == mark {
			p = append(p, nil)
		} else {
			p[len(p)-1] = append(p[len(p)-1], n)
		}
	}
	return p
}

// times lets a car ride a list's floors, and gives when each want is served.
func times(s api.Snap, car int, list []int) []int {
	floor, here, leave := s.Cars[car].Floor, -1, s.Cars[car].After
	var all []int
	for _, want := range list {
		if next := s.Wants[want].Floor; here < 0 || next != floor {
			here = leave
			if next != floor {
				here += s.Site.Start + s.Site.Step*(max(floor, next)-min(floor, next)) + s.Site.Stop
			}
			leave = here + s.Site.Open + s.Site.Wait + s.Site.Close + 2
			floor = next
		}
		all = append(all, here)
	}
	return all
}

// isBeginning tells whether a car and lists are a beginning of a right snapshot's plans, as the chapter tells it.
func isBeginning(s api.Snap, car int, p api.Plan) bool {
	if len(p) != len(s.Cars) || car < 0 || car >= len(s.Cars) {
		return false
	}
	count := map[int]int{}
	for n, list := range p {
		if n > car && len(list) > 0 {
			return false
		}
		for _, want := range list {
			count[want]++
			if want < 0 || want >= len(s.Wants) || count[want] > 1 || s.Wants[want].Cars&(1<<n) == 0 {
				return false
			}
		}
	}
	return true
}

// leastByWords gives a beginning's least cost, as the chapter tells it.
func leastByWords(s api.Snap, car int, p api.Plan) int {
	cost := 0
	for n, list := range p {
		for _, time := range times(s, n, list) {
			cost += time
		}
	}
	for want := range s.Wants {
		if slices.Contains(slices.Concat(p...), want) {
			continue
		}
		var may []int
		for n := car; n < len(s.Cars); n++ {
			if s.Wants[want].Cars&(1<<n) != 0 {
				next := times(s, n, append(slices.Clone(p[n]), want))
				may = append(may, next[len(next)-1])
			}
		}
		if len(may) == 0 {
			return limit
		}
		cost += slices.Min(may)
	}
	return cost
}

// hold holds Least to what it must be.
func hold(t *testing.T, s api.Snap, car int, p api.Plan, n int, e api.Errno) {
	t.Helper()
	for range 2 {
		if got, err := bound.Least(s, car, p); got != n || err != e {
			t.Fatalf("the car %d, %v of %+v: %d, %d, not %d, %d", car, p, s, got, err, n, e)
		}
	}
}

// beginnings gives all beginnings of a right snapshot's plans: all lists, and all cars, are tried.
func beginnings(s api.Snap) []api.Plan {
	var all []api.Plan
	for length := range len(s.Wants) + len(s.Cars) {
		for _, writing := range writings(length, 0, len(s.Wants)) {
			if p := cut(writing, len(s.Wants)); isBeginning(s, len(s.Cars)-1, p) {
				all = append(all, p)
			}
		}
	}
	return all
}

// TestLeast: P11.1, and P1 and P2 of Least; of small snapshots all lists that are short, with wants that there aren't, or that stand twice, and all cars.
func TestLeast(t *testing.T) {
	r := rand.New(rand.NewSource(11))
	for cars := 1; cars <= 3; cars++ {
		for wants := range 4 {
			s := random(r, cars, wants)
			for length := range 6 {
				for _, writing := range writings(length, -1, 4) {
					p := cut(writing, 4)
					for car := -1; car <= cars; car++ {
						if isBeginning(s, car, p) {
							hold(t, s, car, p, leastByWords(s, car, p), api.OK)
						} else {
							hold(t, s, car, p, 0, api.ErrPlan)
						}
					}
				}
			}
		}
	}
}

// TestLeastByHand: P11.1, without a model: 9 ticks and 3 for each floor on the way, and 24 of a stop.
func TestLeastByHand(t *testing.T) {
	s := ordinary()
	for _, c := range []struct {
		name string
		car  int
		p    api.Plan
		n    int
	}{
		{"no lists", 0, api.Plan{nil, nil, nil}, 18 + 3 + 24 + 121 + 18},
		{"a car behind is earlier", 0, api.Plan{{1}, nil, nil}, 3 + 24 + 24 + 121 + 18},
		{"the other one first", 0, api.Plan{{0}, {}, {}}, 18 + 57 + 24 + 121 + 18},
		{"both", 0, api.Plan{{1, 0}, nil, nil}, 3 + 42 + 24 + 121 + 18},
		{"the next car", 1, api.Plan{{1}, nil, nil}, 3 + 24 + 24 + 121 + 18},
		{"a want at the floor of the last stop", 1, api.Plan{{1}, {2}, nil}, 3 + 24 + 24 + 121 + 63},
		{"two lists", 1, api.Plan{{1, 0}, {4}, nil}, 3 + 42 + 18 + 57 + 121},
		{"one stop of two wants", 1, api.Plan{{1}, {2, 0}, nil}, 3 + 24 + 24 + 121 + 63},
		{"the last car", 2, api.Plan{{1}, {2}, nil}, 3 + 24 + 112 + 121 + 112},
		{"the last car's list", 2, api.Plan{{1}, {2}, {3}}, 3 + 24 + 121 + 163 + 169},
		{"nothing left", 2, api.Plan{{1, 0}, {4, 2}, {3}}, 3 + 42 + 18 + 57 + 121},
		{"the first car's, which is past", 1, api.Plan{nil, nil, nil}, limit},
		{"the second car's, which is past", 2, api.Plan{{1, 0}, {4}, {3}}, limit},
		{"two that are past", 2, api.Plan{nil, nil, {3}}, limit},
	} {
		t.Run(c.name, func(t *testing.T) { hold(t, s, c.car, c.p, c.n, api.OK) })
	}
}

// TestLeastOfOne: P11.1, the document's example, and about it: one want on the floor of a car.
func TestLeastOfOne(t *testing.T) {
	s := api.Snap{Site: building(1), Cars: []api.Ready{{Floor: 5}}, Wants: []api.Want{{Floor: 5, Cars: 1}}}
	hold(t, s, 0, api.Plan{nil}, 0, api.OK)
	hold(t, s, 0, api.Plan{{0}}, 0, api.OK)
	for _, after := range []int{1, 7, 1000000} {
		s.Cars[0].After = after
		hold(t, s, 0, api.Plan{nil}, after, api.OK)
		hold(t, s, 0, api.Plan{{0}}, after, api.OK)
	}
	for cars := 1; cars <= 8; cars++ {
		none := api.Snap{Site: building(cars), Cars: make([]api.Ready, cars)}
		for car := range cars {
			hold(t, none, car, make(api.Plan, cars), 0, api.OK)
		}
	}
}

// TestLeastIsNoMore: P11.2; of each beginning all plans that begin so are looked at.
func TestLeastIsNoMore(t *testing.T) {
	r := rand.New(rand.NewSource(112))
	counts := map[string]int{}
	for _, c := range []struct{ cars, wants, rounds int }{{1, 0, 1}, {1, 4, 20}, {2, 3, 60}, {2, 4, 20}, {3, 3, 20}, {3, 2, 20}, {4, 2, 10}} {
		for range c.rounds {
			s := random(r, c.cars, c.wants)
			plans := slices.Collect(plan.All(s))
			for _, begin := range beginnings(s) {
				for car := range c.cars {
					if isBeginning(s, car, begin) {
						compare(t, s, car, begin, plans, counts)
					}
				}
			}
		}
	}
	if counts["more"] < 1000 || counts["just that"] < 1000 || counts["none"] < 1000 {
		t.Errorf("too few were looked at: %v", counts)
	}
}

// compare holds a beginning's least cost against what the plans cost that begin so.
func compare(t *testing.T, s api.Snap, car int, begin api.Plan, plans []api.Plan, counts map[string]int) {
	t.Helper()
	least, e := bound.Least(s, car, begin)
	if e != api.OK {
		t.Fatalf("the car %d, %v of %+v: %d", car, begin, s, e)
	}
	left := len(s.Wants) - len(slices.Concat(begin...))
	any := false
	for _, p := range plans {
		if !bound.Begins(p, car, begin) {
			continue
		}
		any = true
		cost, _ := route.Cost(s, p)
		if cost < least || left == 0 && cost != least {
			t.Fatalf("the car %d, %v of %+v: %d at least, and %v costs %d", car, begin, s, least, p, cost)
		}
		if cost > least {
			counts["more"]++
		} else {
			counts["just that"]++
		}
	}
	if !any {
		counts["none"]++
	}
	// A want that is left has a car of those behind just where a plan begins so.
	if any == (least == limit) {
		t.Fatalf("the car %d, %v of %+v: %d at least, and does a plan begin so: %t", car, begin, s, least, any)
	}
}

// TestLeastGreat: P11.1 and P11.2 at the limits of cars and wants; each plan's beginnings cost no more than it, and ever more.
func TestLeastGreat(t *testing.T) {
	r := rand.New(rand.NewSource(1128))
	for range 5 {
		s := random(r, 8, 128)
		p := make(api.Plan, 8)
		for _, want := range r.Perm(128) {
			car := r.Intn(8)
			for s.Wants[want].Cars>>car%2 == 0 {
				car = (car + 1) % 8
			}
			p[car] = append(p[car], want)
		}
		cost, _ := route.Cost(s, p)
		last, begin := 0, make(api.Plan, 8)
		for car, list := range p {
			for n := range len(list) + 1 {
				begin[car] = list[:n]
				least, e := bound.Least(s, car, begin)
				if e != api.OK || least != leastByWords(s, car, begin) || least < last || least > cost || !bound.Begins(p, car, begin) {
					t.Fatalf("the car %d, %v: %d, %d, behind %d, and the plan costs %d", car, begin, least, e, last, cost)
				}
				last = least
			}
		}
		if last != cost {
			t.Errorf("%d at least, of a plan that costs %d", last, cost)
		}
	}
}

// TestLeastGreatest: P11.1; the greatest cost is told to the tick, and is below the limit.
func TestLeastGreatest(t *testing.T) {
	s := api.Snap{Site: building(1), Cars: []api.Ready{{Floor: 0, After: 1000000}}}
	s.Site.Floors, s.Site.Start, s.Site.Step, s.Site.Stop = 64, 1000, 1000, 1000
	s.Site.Open, s.Site.Wait, s.Site.Close = 1000, 1000, 1000
	var list []int
	for n := range 128 {
		s.Wants = append(s.Wants, api.Want{Floor: 63 * (1 - n%2), Cars: 1})
		list = append(list, n)
	}
	hold(t, s, 0, api.Plan{list}, 128*1065000+68002*127*64, api.OK)
	hold(t, s, 0, api.Plan{nil}, 64*1065000+64*1000000, api.OK)
	s.Site.Cars, s.Cars = 2, append(s.Cars, api.Ready{})
	hold(t, s, 1, api.Plan{list, nil}, 128*1065000+68002*127*64, api.OK)
	hold(t, s, 1, api.Plan{list[:127], nil}, limit, api.OK)
	hold(t, s, 1, api.Plan{nil, nil}, limit, api.OK)
}

// TestNoBeginnings: P11.1; what is no beginning, each by one thing alone.
func TestNoBeginnings(t *testing.T) {
	s := ordinary()
	hold(t, s, 1, api.Plan{{1}, {2}, nil}, 3+24+24+121+63, api.OK)
	for name, c := range map[string]struct {
		car int
		p   api.Plan
	}{
		"a car ahead of the first one":   {-1, api.Plan{nil, nil, nil}},
		"a car behind the last one":      {3, api.Plan{nil, nil, nil}},
		"a car behind, with a list":      {3, api.Plan{nil, nil, nil, nil}},
		"a car far ahead":                {math.MinInt, api.Plan{nil, nil, nil}},
		"a car far behind":               {math.MaxInt, api.Plan{nil, nil, nil}},
		"a car that wraps round":         {1 << 32, api.Plan{nil, nil, nil}},
		"no lists":                       {1, nil},
		"no lists at all":                {0, api.Plan{}},
		"a list too few":                 {1, api.Plan{{1}, {2}}},
		"a list too many":                {1, api.Plan{{1}, {2}, nil, nil}},
		"far too many lists":             {1, make(api.Plan, 1<<16)},
		"a list behind":                  {1, api.Plan{{1}, {2}, {3}}},
		"a list behind alone":            {0, api.Plan{nil, {2}, nil}},
		"a list far behind":              {0, api.Plan{{1}, nil, {3}}},
		"a list behind of no wants":      {0, api.Plan{{1}, nil, {77}}},
		"a want twice in a list":         {1, api.Plan{{1, 1}, {2}, nil}},
		"a want twice, with one between": {1, api.Plan{{1, 0, 1}, {2}, nil}},
		"a want twice in two lists":      {1, api.Plan{{1, 0}, {2, 0}, nil}},
		"another car's want":             {1, api.Plan{{1}, {3}, nil}},
		"the next car's want":            {1, api.Plan{{1, 4}, {2}, nil}},
		"a place behind the last one":    {1, api.Plan{{1}, {2, 5}, nil}},
		"a place ahead of the first one": {1, api.Plan{{-1}, {2}, nil}},
		"a place far behind":             {1, api.Plan{{1}, {math.MaxInt}, nil}},
		"a place far ahead":              {1, api.Plan{{math.MinInt}, {2}, nil}},
		"a place that wraps round":       {1, api.Plan{{1<<32 + 1}, {2}, nil}},
		"far too many wants":             {1, api.Plan{{1}, slices.Repeat([]int{2}, 1<<16), nil}},
	} {
		t.Run(name, func(t *testing.T) { hold(t, s, c.car, c.p, 0, api.ErrPlan) })
	}
}

// TestWrongSnaps: P11.1; of a snapshot that isn't right nothing is a beginning, and none panics.
func TestWrongSnaps(t *testing.T) {
	for name, turn := range map[string]func(*api.Snap){
		"nothing":              func(s *api.Snap) { *s = api.Snap{} },
		"no cars":              func(s *api.Snap) { s.Cars = nil },
		"a car too few":        func(s *api.Snap) { s.Cars = s.Cars[:2] },
		"a car too many":       func(s *api.Snap) { s.Cars = append(s.Cars, api.Ready{}) },
		"a car above":          func(s *api.Snap) { s.Cars[2].Floor = 9 },
		"a car below":          func(s *api.Snap) { s.Cars[0].Floor = -1 },
		"a car ready ahead":    func(s *api.Snap) { s.Cars[1].After = -1 },
		"a car ready too late": func(s *api.Snap) { s.Cars[1].After = 1000001 },
		"a want above":         func(s *api.Snap) { s.Wants[3].Floor = 9 },
		"a want below":         func(s *api.Snap) { s.Wants[3].Floor = math.MinInt },
		"a want without cars":  func(s *api.Snap) { s.Wants[0].Cars = 0 },
		"a car that isn't":     func(s *api.Snap) { s.Wants[0].Cars = 15 },
		"all bits":             func(s *api.Snap) { s.Wants[0].Cars = -1 },
		"a site without Age":   func(s *api.Snap) { s.Site.Age = 0 },
		"a site without steps": func(s *api.Snap) { s.Site.Step = 0 },
		"a site of 65 floors":  func(s *api.Snap) { s.Site.Floors = 65 },
		"too many wants":       func(s *api.Snap) { s.Wants = slices.Repeat(s.Wants, 26) },
	} {
		s := ordinary()
		turn(&s)
		for _, p := range []api.Plan{{{1}, {2}, nil}, {nil, nil, nil}, {nil, nil, nil, nil}, {nil, nil}, {{0}}, {}, nil} {
			for car := -1; car <= 4; car++ {
				if n, e := bound.Least(s, car, p); n != 0 || e != api.ErrPlan {
					t.Errorf("%s: the car %d, %v: %d, %d", name, car, p, n, e)
				}
			}
		}
	}
}

// TestLeastLeaves: rule 4 of Least; what is handed in isn't changed, in the room behind its end neither.
func TestLeastLeaves(t *testing.T) {
	s := ordinary()
	before := copyOf(s)
	for _, lists := range []api.Plan{{{1, 7}, {2, 8}, {3, 9}}, {{1, 7}, {1, 8}, {3, 9}}} {
		was := api.Plan{slices.Clone(lists[0]), slices.Clone(lists[1]), slices.Clone(lists[2])}
		p := api.Plan{lists[0][:1], lists[1][:1], lists[2][:0]}
		bound.Least(s, 1, p)
		bound.Begins(lists, 1, p)
		if !slices.EqualFunc(lists, was, slices.Equal) || !same(s, before) || len(p[0]) != 1 || len(p[1]) != 1 || len(p[2]) != 0 {
			t.Errorf("%v, %v and %+v, which were handed in", lists, p, s)
		}
	}
}
