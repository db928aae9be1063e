package route_test

import (
	"math"
	"math/rand"
	"slices"
	"testing"

	"paternoster/api"
	"paternoster/plan"
	"paternoster/route"
)

// ordinary gives a right snapshot of three cars, of which the first may serve all wants but the last one.
func ordinary() api.Snap {
	return api.Snap{
		Site:  building(3),
		Cars:  []api.Ready{{Floor: 1, After: 3}, {Floor: 8}, {Floor: 4, After: 100}},
		Wants: []api.Want{{Floor: 3, Cars: 7}, {Floor: 1, Cars: 1}, {Floor: 3, Cars: 3}, {Floor: 0, Cars: 6}},
	}
}

// clone gives a snapshot that shares no list with another one.
func clone(s api.Snap) api.Snap {
	s.Cars, s.Wants = slices.Clone(s.Cars), slices.Clone(s.Wants)
	return s
}

// same tells whether two snapshots are one.
func same(a, b api.Snap) bool {
	return a.Site == b.Site && slices.Equal(a.Cars, b.Cars) && slices.Equal(a.Wants, b.Wants)
}

// random gives a right snapshot of so many cars and wants, whatever its numbers; its floors are few, so that wants share them.
func random(r *rand.Rand, cars, wants int) api.Snap {
	s := api.Snap{Site: building(cars)}
	for _, f := range fields {
		*f.of(&s.Site) = f.least + r.Intn(min(20, f.most-f.least))
	}
	s.Site.Floors = 2 + r.Intn(4)
	for range cars {
		s.Cars = append(s.Cars, api.Ready{Floor: r.Intn(s.Site.Floors), After: r.Intn(40)})
	}
	for range wants {
		s.Wants = append(s.Wants, api.Want{Floor: r.Intn(s.Site.Floors), Cars: 1 + r.Intn(1<<cars-1)})
	}
	return s
}

// waitsByWords lets each car ride its list's floors: floors that are one, one behind the other, are one stop.
func waitsByWords(s api.Snap, p api.Plan) []int {
	waits := make([]int, len(s.Wants))
	for car, list := range p {
		floor, now := s.Cars[car].Floor, s.Cars[car].After
		for len(list) > 0 {
			next := s.Wants[list[0]].Floor
			now += walk(s.Site, floor, next)
			floor = next
			for len(list) > 0 && s.Wants[list[0]].Floor == floor {
				waits[list[0]] = now
				list = list[1:]
			}
			now += s.Site.Open + s.Site.Wait + s.Site.Close + 2
		}
	}
	return waits
}

// total adds numbers that are far from the limit.
func total(list []int) int {
	sum := 0
	for _, n := range list {
		sum += n
	}
	return sum
}

// hold holds Waits and Cost of a feasible plan to what they must be.
func hold(t *testing.T, s api.Snap, p api.Plan, want []int) {
	t.Helper()
	for range 2 {
		if got, e := route.Waits(s, p); e != api.OK || !slices.Equal(got, want) {
			t.Fatalf("Waits of %v of %+v: %v, %d, not %v", p, s, got, e, want)
		}
		if got, e := route.Cost(s, p); e != api.OK || got != total(want) {
			t.Fatalf("Cost of %v of %+v: %d, %d, not %d", p, s, got, e, total(want))
		}
	}
}

// refused holds Waits and Cost to ErrPlan, and nothing besides.
func refused(t *testing.T, name string, s api.Snap, p api.Plan) {
	t.Helper()
	if got, e := route.Waits(s, p); e != api.ErrPlan || len(got) != 0 {
		t.Errorf("%s: Waits: %v, %d", name, got, e)
	}
	if got, e := route.Cost(s, p); e != api.ErrPlan || got != 0 {
		t.Errorf("%s: Cost: %d, %d", name, got, e)
	}
}

// TestWaits: P10.2, and P2 of Waits and Cost; all plans of small snapshots.
func TestWaits(t *testing.T) {
	r := rand.New(rand.NewSource(10))
	for cars := 1; cars <= 4; cars++ {
		for wants := range 5 {
			for range 20 {
				s := random(r, cars, wants)
				for p := range plan.All(s) {
					hold(t, s, p, waitsByWords(s, p))
				}
			}
		}
	}
}

// TestWaitsByHand: P10.2, without a model: 9 ticks and 3 for each floor on the way, and 24 of a stop.
func TestWaitsByHand(t *testing.T) {
	s := ordinary()
	for _, c := range []struct {
		name string
		p    api.Plan
		want []int
	}{
		{"one stop for two wants", api.Plan{{1, 0, 2}, {3}, {}}, []int{42, 3, 42, 33}},
		{"the order of a list counts", api.Plan{{0, 1, 2}, {3}, nil}, []int{18, 57, 96, 33}},
		{"two wants of one stop, the later one first", api.Plan{{2, 0, 1}, {3}, nil}, []int{18, 57, 18, 33}},
		{"each its own", api.Plan{{1}, {2}, {0, 3}}, []int{112, 3, 24, 154}},
		{"the last car's After", api.Plan{{1}, {2}, {3, 0}}, []int{163, 3, 24, 121}},
	} {
		t.Run(c.name, func(t *testing.T) { hold(t, s, c.p, c.want) })
	}
}

// TestWaitsWhereItBegins: P10.2, the document's example; a want at the floor where a route begins is served at After, the first one or none.
func TestWaitsWhereItBegins(t *testing.T) {
	s := api.Snap{Site: building(1), Cars: []api.Ready{{}}, Wants: []api.Want{{Cars: 1}}}
	hold(t, s, api.Plan{{0}}, []int{0})
	for _, after := range []int{1, 7, 999999, 1000000} {
		s.Cars[0].After = after
		hold(t, s, api.Plan{{0}}, []int{after})
	}
	s.Cars[0].After = 7
	s.Wants = []api.Want{{Floor: 0, Cars: 1}, {Floor: 2, Cars: 1}, {Floor: 0, Cars: 1}}
	hold(t, s, api.Plan{{0, 2, 1}}, []int{7, 46, 7})
	hold(t, s, api.Plan{{0, 1, 2}}, []int{7, 46, 85})
	hold(t, s, api.Plan{{1, 0, 2}}, []int{61, 22, 61})
}

// TestWaitsOfNone: P10.2; without wants nothing is waited for, and nothing is an error.
func TestWaitsOfNone(t *testing.T) {
	for cars := 1; cars <= 8; cars++ {
		s := api.Snap{Site: building(cars), Cars: make([]api.Ready, cars)}
		hold(t, s, make(api.Plan, cars), nil)
	}
}

// TestWaitsGreat: P10.2; the plan that costs most of all is below the limit, and is told to the tick.
func TestWaitsGreat(t *testing.T) {
	s := api.Snap{Site: building(1), Cars: []api.Ready{{Floor: 0, After: 1000000}}}
	for _, f := range fields {
		*f.of(&s.Site) = f.most
	}
	var list, want []int
	for n := range 128 {
		s.Wants = append(s.Wants, api.Want{Floor: 63 * (1 - n%2), Cars: 1})
		list = append(list, n)
		// 65,000 ticks over all floors, and 3,002 of a stop ahead of each but the first one.
		want = append(want, 1000000+65000+n*68002)
	}
	hold(t, s, api.Plan{list}, want)
	if got, _ := route.Cost(s, api.Plan{list}); got != 128*1065000+68002*127*64 || got >= limit {
		t.Errorf("it costs %d", got)
	}
}

// TestWaitsMany: P10.2; at the limits of cars and wants, whatever plan.
func TestWaitsMany(t *testing.T) {
	r := rand.New(rand.NewSource(128))
	for range 50 {
		s := random(r, 8, 128)
		for _, f := range fields {
			*f.of(&s.Site) = f.most - r.Intn(2)
		}
		p := make(api.Plan, 8)
		for _, n := range r.Perm(128) {
			car := r.Intn(8)
			for s.Wants[n].Cars>>car%2 == 0 {
				car = (car + 1) % 8
			}
			p[car] = append(p[car], n)
		}
		hold(t, s, p, waitsByWords(s, p))
	}
}

// TestWrongPlans: P10.2; plans that aren't feasible, each by one thing alone.
func TestWrongPlans(t *testing.T) {
	hold(t, ordinary(), api.Plan{{1}, {2}, {0, 3}}, []int{112, 3, 24, 154})
	for name, p := range map[string]api.Plan{
		"no lists":                       nil,
		"no lists at all":                {},
		"empty lists":                    {{}, {}, {}},
		"a list too few":                 {{0, 1, 2}, {3}},
		"a list too many":                {{1}, {2}, {0, 3}, {}},
		"a list of a car that isn't":     {{1}, {2}, {0}, {3}},
		"a want left out":                {{1}, {2}, {0}},
		"a want twice in a list":         {{1, 1}, {2}, {0, 3}},
		"a want twice in two":            {{1, 0}, {2}, {0, 3}},
		"another car's want":             {{1, 3}, {2}, {0}},
		"a place behind the last one":    {{1}, {2}, {0, 3, 4}},
		"a place ahead of the first one": {{1, -1}, {2}, {0, 3}},
		"a place far behind":             {{1}, {2, math.MaxInt}, {0, 3}},
		"a place far ahead":              {{1}, {2, math.MinInt}, {0, 3}},
		"a place that wraps round":       {{1}, {1<<32 + 2}, {0, 3}},
		"far too many lists":             make(api.Plan, 1<<16),
		"far too many wants":             {{1}, {2}, slices.Repeat([]int{0, 3}, 1<<16)},
	} {
		refused(t, name, ordinary(), p)
	}
}

// TestWrongSnaps: P10.2; of a snapshot that isn't right no plan is feasible, and none panics.
func TestWrongSnaps(t *testing.T) {
	for name, turn := range map[string]func(*api.Snap){
		"nothing":              func(s *api.Snap) { *s = api.Snap{} },
		"no cars":              func(s *api.Snap) { s.Cars = nil },
		"a car too few":        func(s *api.Snap) { s.Cars = s.Cars[:2] },
		"a car too many":       func(s *api.Snap) { s.Cars = append(s.Cars, api.Ready{}) },
		"a car above":          func(s *api.Snap) { s.Cars[2].Floor = 9 },
		"a car below":          func(s *api.Snap) { s.Cars[0].Floor = -1 },
		"a car ready ahead":    func(s *api.Snap) { s.Cars[1].After = -1 },
		"a car ready too late": func(s *api.Snap) { s.Cars[1].After = 1000001 },
		"a want above":         func(s *api.Snap) { s.Wants[3].Floor = 9 },
		"a want below":         func(s *api.Snap) { s.Wants[3].Floor = math.MinInt },
		"a want without cars":  func(s *api.Snap) { s.Wants[0].Cars = 0 },
		"a car that isn't":     func(s *api.Snap) { s.Wants[0].Cars = 15 },
		"a site without Age":   func(s *api.Snap) { s.Site.Age = 0 },
		"a site without steps": func(s *api.Snap) { s.Site.Step = 0 },
		"a site of 65 floors":  func(s *api.Snap) { s.Site.Floors = 65 },
		"too many wants":       func(s *api.Snap) { s.Wants = slices.Repeat(s.Wants, 33) },
	} {
		s := ordinary()
		turn(&s)
		for _, p := range []api.Plan{{{1}, {2}, {0, 3}}, {{1}, {2, 3}}, {nil, nil, nil}, {{0}}, {}, nil} {
			refused(t, name, s, p)
		}
	}
}

// TestWaitsLeaves: rule 4 of Waits and Cost; what is handed in isn't changed, and what is answered is new.
func TestWaitsLeaves(t *testing.T) {
	s := ordinary()
	before, want := clone(s), []int{112, 3, 24, 154}
	lists := api.Plan{{1, 7}, {2, 8, 9}, {0, 3, 6}}
	p := api.Plan{lists[0][:1], lists[1][:1], lists[2][:2]}
	first, _ := route.Waits(s, p)
	second, _ := route.Waits(s, p)
	route.Cost(s, p)
	room := first[:cap(first)]
	for i := range room {
		room[i] = -7
	}
	if !slices.Equal(second, want) || !same(s, before) {
		t.Errorf("%v and %+v, as an answer was written into", second, s)
	}
	hold(t, s, p, want)
	if !slices.EqualFunc(lists, api.Plan{{1, 7}, {2, 8, 9}, {0, 3, 6}}, slices.Equal) || !same(s, before) {
		t.Errorf("%v and %+v, which were handed in", lists, s)
	}
}
