package rule_test

import (
	"math"
	"math/rand"
	"slices"
	"testing"

	"paternoster/api"
	"paternoster/plan"
	"paternoster/rule"
)

// building gives a right site of so many cars, with ten floors: a way takes 6 ticks, and 3 for each floor.
func building(cars int) api.Site {
	return api.Site{Floors: 10, Cars: cars, Start: 2, Step: 3, Stop: 4, Open: 5, Wait: 11, Close: 6, Nudge: 2, Age: 500, Silent: 20, Budget: 700, Period: 17}
}

// random gives a right snapshot of so many cars and wants, with few floors, so that much is as near, and as soon.
func random(r *rand.Rand, cars, wants int) api.Snap {
	s := api.Snap{Site: building(cars)}
	s.Site.Floors, s.Site.Start, s.Site.Step, s.Site.Stop = 2+r.Intn(9), r.Intn(3), 1+r.Intn(3), r.Intn(3)
	for range cars {
		s.Cars = append(s.Cars, api.Ready{Floor: r.Intn(s.Site.Floors), After: r.Intn(8)})
	}
	for range wants {
		s.Wants = append(s.Wants, api.Want{Floor: r.Intn(s.Site.Floors), Cars: 1 + r.Intn(1<<cars-1)})
	}
	return s
}

// clone gives a snapshot that shares no list with another one.
func clone(s api.Snap) api.Snap {
	s.Cars, s.Wants = slices.Clone(s.Cars), slices.Clone(s.Wants)
	return s
}

// samePlan tells whether two plans are one: a list without elements and a nil one are.
func samePlan(a, b api.Plan) bool { return slices.EqualFunc(a, b, slices.Equal[[]int]) }

// there gives when a car would be at a floor, tick by tick.
func there(s api.Snap, car, floor int) int {
	at, ticks := s.Cars[car].Floor, s.Cars[car].After
	if at != floor {
		ticks += s.Site.Start + s.Site.Stop
	}
	for ; at < floor; at++ {
		ticks += s.Site.Step
	}
	for ; at > floor; at-- {
		ticks += s.Site.Step
	}
	return ticks
}

// isRulesCar tells whether a want is a car's by the rule: it may serve it, none that may is there earlier, and none with a lesser number as early.
func isRulesCar(s api.Snap, want api.Want, car int) bool {
	if want.Cars&(1<<car) == 0 {
		return false
	}
	own := there(s, car, want.Floor)
	for other := range s.Cars {
		if want.Cars&(1<<other) == 0 || other == car {
			continue
		}
		if t := there(s, other, want.Floor); t < own || t == own && other < car {
			return false
		}
	}
	return true
}

// planByWords gives the rule's plan as the chapter tells it: of each car, each distance, each place.
func planByWords(s api.Snap) api.Plan {
	p := make(api.Plan, len(s.Cars))
	for car, ready := range s.Cars {
		for away := range s.Site.Floors {
			for place, want := range s.Wants {
				if (want.Floor == ready.Floor+away || want.Floor == ready.Floor-away) && isRulesCar(s, want, car) {
					p[car] = append(p[car], place)
				}
			}
		}
	}
	return p
}

// TestPlanByHand: P14.1, without a model.
func TestPlanByHand(t *testing.T) {
	for _, c := range []struct {
		name  string
		cars  []api.Ready
		wants []api.Want
		want  api.Plan
	}{
		{"no wants", []api.Ready{{Floor: 3}}, nil, api.Plan{{}}},
		{"no wants, of more cars", []api.Ready{{Floor: 3}, {}, {}}, []api.Want{}, api.Plan{{}, {}, {}}},
		{"one car, one want", []api.Ready{{Floor: 3}}, []api.Want{{Floor: 7, Cars: 1}}, api.Plan{{0}}},
		{"the nearer one, the document's example", []api.Ready{{Floor: 0}, {Floor: 9}}, []api.Want{{Floor: 8, Cars: 3}}, api.Plan{{}, {0}}},
		{"the nearer one may not", []api.Ready{{Floor: 0}, {Floor: 9}}, []api.Want{{Floor: 8, Cars: 1}}, api.Plan{{0}, {}}},
		{"as near: the least number", []api.Ready{{Floor: 4}, {Floor: 4}, {Floor: 4}}, []api.Want{{Floor: 8, Cars: 7}, {Floor: 8, Cars: 6}, {Floor: 1, Cars: 4}}, api.Plan{{0}, {1}, {2}}},
		{"as near on either side", []api.Ready{{Floor: 9}, {Floor: 1}}, []api.Want{{Floor: 5, Cars: 3}}, api.Plan{{0}, {}}},
		// 0 to 6 takes 24 ticks, 9 to 6 takes 15.
		{"After makes it as late", []api.Ready{{Floor: 0}, {Floor: 9, After: 9}}, []api.Want{{Floor: 6, Cars: 3}}, api.Plan{{0}, {}}},
		{"After, a tick less", []api.Ready{{Floor: 0}, {Floor: 9, After: 8}}, []api.Want{{Floor: 6, Cars: 3}}, api.Plan{{}, {0}}},
		{"After, a tick more", []api.Ready{{Floor: 0}, {Floor: 9, After: 10}}, []api.Want{{Floor: 6, Cars: 3}}, api.Plan{{0}, {}}},
		{"After the most there is", []api.Ready{{Floor: 8, After: 1000000}, {Floor: 0}}, []api.Want{{Floor: 8, Cars: 3}, {Floor: 8, Cars: 1}}, api.Plan{{1}, {0}}},
		// A car that is there waits for its After alone; 3 to 4 takes 9.
		{"at the floor, as late", []api.Ready{{Floor: 3}, {Floor: 4, After: 9}}, []api.Want{{Floor: 4, Cars: 3}}, api.Plan{{0}, {}}},
		{"at the floor, a tick earlier", []api.Ready{{Floor: 3}, {Floor: 4, After: 8}}, []api.Want{{Floor: 4, Cars: 3}}, api.Plan{{}, {0}}},
		{"wants that it has don't count", []api.Ready{{Floor: 4}, {Floor: 9}}, []api.Want{{Floor: 5, Cars: 3}, {Floor: 3, Cars: 3}, {Floor: 6, Cars: 3}, {Floor: 0, Cars: 3}}, api.Plan{{0, 1, 2, 3}, {}}},
		{"by distance, the least first", []api.Ready{{Floor: 4}}, []api.Want{{Floor: 9, Cars: 1}, {Floor: 0, Cars: 1}, {Floor: 7, Cars: 1}, {Floor: 4, Cars: 1}, {Floor: 3, Cars: 1}}, api.Plan{{3, 4, 2, 1, 0}}},
		{"of one distance by places, above and below", []api.Ready{{Floor: 4}}, []api.Want{{Floor: 6, Cars: 1}, {Floor: 2, Cars: 1}, {Floor: 6, Cars: 1}, {Floor: 2, Cars: 1}, {Floor: 5, Cars: 1}, {Floor: 3, Cars: 1}}, api.Plan{{4, 5, 0, 1, 2, 3}}},
		{"from where it goes on, not from the last want", []api.Ready{{Floor: 5}}, []api.Want{{Floor: 8, Cars: 1}, {Floor: 3, Cars: 1}, {Floor: 9, Cars: 1}, {Floor: 6, Cars: 1}}, api.Plan{{3, 1, 0, 2}}},
		{"each list by its own car", []api.Ready{{Floor: 9}, {Floor: 0}}, []api.Want{{Floor: 4, Cars: 2}, {Floor: 4, Cars: 1}, {Floor: 6, Cars: 2}, {Floor: 6, Cars: 1}, {Floor: 1, Cars: 2}, {Floor: 1, Cars: 1}}, api.Plan{{3, 1, 5}, {4, 0, 2}}},
		{"After doesn't put a list in order", []api.Ready{{Floor: 4, After: 50}}, []api.Want{{Floor: 0, Cars: 1}, {Floor: 4, Cars: 1}, {Floor: 9, Cars: 1}}, api.Plan{{1, 0, 2}}},
	} {
		s := api.Snap{Site: building(len(c.cars)), Cars: c.cars, Wants: c.wants}
		if got, e := rule.Plan(s); e != api.OK || !samePlan(got, c.want) {
			t.Errorf("%s: %v, %v, not %v", c.name, got, e, c.want)
		}
	}
}

// TestPlan: P14.1, and P2 of Plan; the rule's plan, which is feasible, of many snapshots.
func TestPlan(t *testing.T) {
	r := rand.New(rand.NewSource(14))
	for n := range 6000 {
		s := random(r, 1+n%8, r.Intn(12))
		want := planByWords(s)
		for range 2 {
			got, e := rule.Plan(s)
			if e != api.OK || !samePlan(got, want) {
				t.Fatalf("%+v: %v, %v, not %v", s, got, e, want)
			}
			if !plan.Feasible(s, got) {
				t.Fatalf("%+v: %v isn't feasible", s, got)
			}
		}
	}
}

// TestPlanGreat: P14.1; with all the wants there may be, of which many are at one distance, and the numbers of the site at their most.
func TestPlanGreat(t *testing.T) {
	r := rand.New(rand.NewSource(15))
	for n := range 300 {
		s := random(r, 1+n%8, 128)
		if n%3 == 0 {
			s.Site.Floors, s.Site.Start, s.Site.Step, s.Site.Stop = 64, 1000, 1000, 1000
			for i := range s.Cars {
				s.Cars[i] = api.Ready{Floor: r.Intn(2) * 63, After: r.Intn(2) * 1000000}
			}
			for i := range s.Wants {
				s.Wants[i].Floor = r.Intn(64)
			}
		}
		if got, e := rule.Plan(s); e != api.OK || !samePlan(got, planByWords(s)) || !plan.Feasible(s, got) {
			t.Fatalf("%+v: %v, %v", s, got, e)
		}
	}
}

// TestPlanWrong: P14.1; ErrArg and no plan, if a snapshot isn't right, each by one thing alone.
func TestPlanWrong(t *testing.T) {
	for name, turn := range map[string]func(*api.Snap){
		"no cars":              func(s *api.Snap) { s.Cars = nil },
		"a car too few":        func(s *api.Snap) { s.Cars = s.Cars[:2] },
		"a car too many":       func(s *api.Snap) { s.Cars = append(s.Cars, api.Ready{}) },
		"a car below":          func(s *api.Snap) { s.Cars[0].Floor = -1 },
		"a car above":          func(s *api.Snap) { s.Cars[2].Floor = 10 },
		"a car far away":       func(s *api.Snap) { s.Cars[1].Floor = math.MinInt },
		"a car ready ahead":    func(s *api.Snap) { s.Cars[1].After = -1 },
		"a car ready too late": func(s *api.Snap) { s.Cars[2].After = 1000001 },
		"a car never ready":    func(s *api.Snap) { s.Cars[0].After = math.MaxInt },
		"a want below":         func(s *api.Snap) { s.Wants[0].Floor = -1 },
		"a want above":         func(s *api.Snap) { s.Wants[1].Floor = 10 },
		"a want without cars":  func(s *api.Snap) { s.Wants[0].Cars = 0 },
		"another car":          func(s *api.Snap) { s.Wants[1].Cars = 8 },
		"another car besides":  func(s *api.Snap) { s.Wants[1].Cars = 15 },
		"all bits":             func(s *api.Snap) { s.Wants[0].Cars = -1 },
		"too many wants":       func(s *api.Snap) { s.Wants = slices.Repeat([]api.Want{{Cars: 7}}, 129) },
		"a site without cars":  func(s *api.Snap) { s.Site.Cars, s.Cars = 0, nil },
		"a site of nine cars":  func(s *api.Snap) { s.Site.Cars, s.Cars = 9, make([]api.Ready, 9) },
		"a site of 65 floors":  func(s *api.Snap) { s.Site.Floors = 65 },
		"a site without Age":   func(s *api.Snap) { s.Site.Age = 0 },
		"a site beyond all":    func(s *api.Snap) { s.Site.Cars, s.Site.Floors = math.MaxInt, math.MaxInt },
		"nothing":              func(s *api.Snap) { *s = api.Snap{} },
	} {
		s := api.Snap{Site: building(3), Cars: make([]api.Ready, 3), Wants: []api.Want{{Floor: 4, Cars: 7}, {Floor: 9, Cars: 2}}}
		if _, e := rule.Plan(s); e != api.OK {
			t.Fatalf("the right one: %v", e)
		}
		turn(&s)
		if p, e := rule.Plan(s); e != api.ErrArg || len(p) != 0 {
			t.Errorf("%s: %v, %v", name, p, e)
		}
	}
}

// TestPlanOwn: rule 4 of Plan; the snapshot isn't changed, nor the room behind its lists' ends, and the lists of answers share nothing.
func TestPlanOwn(t *testing.T) {
	r := rand.New(rand.NewSource(16))
	for range 300 {
		whole := random(r, 1+r.Intn(8), 9)
		whole.Cars = append(whole.Cars, api.Ready{Floor: 99, After: 99})
		s := whole
		s.Cars, s.Wants = whole.Cars[:whole.Site.Cars], whole.Wants[:6]
		before := clone(whole)
		p, _ := rule.Plan(s)
		other, _ := rule.Plan(s)
		if !slices.Equal(whole.Cars, before.Cars) || !slices.Equal(whole.Wants, before.Wants) {
			t.Fatalf("%+v was changed to %+v", before, whole)
		}
		for car, list := range p {
			list = append(list, -5, -6)
			for i := range list {
				list[i] = -7
			}
			p[car] = nil
		}
		if !samePlan(other, planByWords(s)) {
			t.Fatalf("%+v: what was done to one answer is seen in another one: %v", s, other)
		}
		// Each list, written over to the end of its room, leaves the others as they were.
		for car, list := range other {
			rest := slices.Delete(slices.Clone(other), car, car+1)
			want := slices.Delete(planByWords(s), car, car+1)
			full := list[:cap(list)]
			kept := slices.Clone(full)
			for i := range full {
				full[i] = -8
			}
			if !samePlan(rest, want) {
				t.Fatalf("%+v: the list of the car %d shares room with another one", s, car)
			}
			copy(full, kept)
		}
	}
}

// all lets each call be.
func all(api.Call) bool { return true }

// TestOldestByHand: P14.2, without a model; ages at all edges of their type.
func TestOldestByHand(t *testing.T) {
	a, b, c := api.Call{Floor: 1, Car: -1, Age: 5, Up: true}, api.Call{Floor: 2, Car: 0, Age: 7}, api.Call{Floor: 3, Car: -1, Age: 7}
	least, most := api.Call{Floor: 4, Car: 2, Age: math.MinInt}, api.Call{Floor: 5, Car: 3, Age: math.MaxInt}
	zero := api.Call{}
	floorIsnt := func(floor int) func(api.Call) bool { return func(c api.Call) bool { return c.Floor != floor } }
	for _, x := range []struct {
		name  string
		calls []api.Call
		may   func(api.Call) bool
		age   int
		want  api.Call
		found bool
	}{
		{"no calls", nil, all, 0, zero, false},
		{"no calls, whatever the age", []api.Call{}, all, math.MinInt, zero, false},
		{"one, as old", []api.Call{a}, all, 5, a, true},
		{"one, a tick too young", []api.Call{a}, all, 6, zero, false},
		{"one, older", []api.Call{a}, all, 4, a, true},
		{"one that may not be", []api.Call{a}, floorIsnt(1), 0, zero, false},
		{"the oldest, behind", []api.Call{a, b}, all, 0, b, true},
		{"the oldest, ahead", []api.Call{b, a}, all, 0, b, true},
		{"of more the first", []api.Call{a, b, c}, all, 0, b, true},
		{"of more the first, the other way round", []api.Call{a, c, b}, all, 7, c, true},
		{"of more the first that may be", []api.Call{a, b, c}, floorIsnt(2), 7, c, true},
		{"the oldest may not be, and the next one is too young", []api.Call{a, most}, floorIsnt(5), 6, zero, false},
		{"the oldest may not be, and the next one is old", []api.Call{most, a}, floorIsnt(5), 5, a, true},
		{"none may be", []api.Call{a, b, c, most}, func(api.Call) bool { return false }, math.MinInt, zero, false},
		{"a call without anything", []api.Call{zero}, all, 0, zero, true},
		{"a call without anything, too young", []api.Call{zero}, all, 1, zero, false},
		{"the least Age there is", []api.Call{least}, all, math.MinInt, least, true},
		{"the least Age there is, too young", []api.Call{least}, all, math.MinInt + 1, zero, false},
		{"the least Age, and one more", []api.Call{least, zero}, all, math.MinInt, zero, true},
		{"Ages below 0", []api.Call{{Floor: 1, Age: -4}, {Floor: 2, Age: -3}, {Floor: 3, Age: -5}}, all, -5, api.Call{Floor: 2, Age: -3}, true},
		{"the most Age there is", []api.Call{a, most, b}, all, math.MaxInt, most, true},
		{"far apart", []api.Call{least, most}, all, math.MinInt, most, true},
		{"far apart, the other way round", []api.Call{most, least}, all, math.MinInt, most, true},
		{"floors and cars that there aren't", []api.Call{{Floor: math.MaxInt, Car: math.MinInt, Age: 9}}, all, 9, api.Call{Floor: math.MaxInt, Car: math.MinInt, Age: 9}, true},
	} {
		for range 2 {
			if got, found := rule.Oldest(x.calls, x.may, x.age); got != x.want || found != x.found {
				t.Errorf("%s: %+v, %t", x.name, got, found)
			}
		}
	}
}

// TestOldest: P14.2, and P2 of Oldest; against what its words say of each call of a list.
func TestOldest(t *testing.T) {
	r := rand.New(rand.NewSource(17))
	for range 4000 {
		var list []api.Call
		for n := range r.Intn(9) {
			list = append(list, api.Call{Floor: n, Car: r.Intn(3) - 1, Age: r.Intn(6) - 1, Up: r.Intn(2) == 0})
		}
		mask, age := r.Intn(512), r.Intn(6)-1
		may := func(c api.Call) bool { return mask>>c.Floor&1 == 1 }
		var want api.Call
		wanted := 0
		for place, c := range list {
			beaten := !may(c) || c.Age < age
			for other, d := range list {
				beaten = beaten || may(d) && (d.Age > c.Age || d.Age == c.Age && other < place)
			}
			if !beaten {
				want = c
				wanted++
			}
		}
		if got, found := rule.Oldest(list, may, age); got != want || found != (wanted == 1) || wanted > 1 {
			t.Fatalf("%+v of %09b and %d: %+v, %t, not %+v", list, mask, age, got, found, want)
		}
	}
}

// TestOldestAsks: P14.2; may is asked of each call as it stands in the list, once, in its order.
func TestOldestAsks(t *testing.T) {
	list := []api.Call{{Floor: 1, Car: -1, Age: 5, Up: true}, {Floor: 2, Car: 4, Age: 9}, {Floor: 1, Car: -1, Age: 5, Up: true}, {Floor: -3, Car: 77, Age: -9, Up: true}}
	var asked []api.Call
	got, found := rule.Oldest(list, func(c api.Call) bool {
		asked = append(asked, c)
		return c.Age != 9
	}, 5)
	if !slices.Equal(asked, list) {
		t.Errorf("asked of %+v", asked)
	}
	if got != list[0] || !found {
		t.Errorf("%+v, %t", got, found)
	}
}

// TestOldestNobody: P1 of Oldest; without a function that says so, no call may be.
func TestOldestNobody(t *testing.T) {
	for _, list := range [][]api.Call{nil, {{}}, {{Floor: 1, Age: 5}, {Floor: 2, Age: 7}}} {
		if got, found := rule.Oldest(list, nil, 0); got != (api.Call{}) || found {
			t.Errorf("%+v: %+v, %t", list, got, found)
		}
	}
}

// TestOldestOwn: rule 4 of Oldest; the list isn't changed, nor the room behind its end, and that room isn't looked at.
func TestOldestOwn(t *testing.T) {
	whole := []api.Call{{Floor: 1, Age: 3}, {Floor: 2, Age: 8}, {Floor: 3, Age: 8}, {Floor: 4, Age: 99}}
	before := slices.Clone(whole)
	for n := range len(whole) {
		got, found := rule.Oldest(whole[:n], all, 0)
		if want := [][]int{{0, 0}, {1, 3}, {2, 8}, {2, 8}}[n]; got.Floor != want[0] || got.Age != want[1] || found != (n > 0) {
			t.Errorf("of %d: %+v, %t", n, got, found)
		}
	}
	if !slices.Equal(whole, before) {
		t.Errorf("%+v was changed to %+v", before, whole)
	}
}

// TestOldestGreat: P14.2; of a long list, with the oldest call at each end of it.
func TestOldestGreat(t *testing.T) {
	list := make([]api.Call, 200000)
	for i := range list {
		list[i] = api.Call{Floor: i, Age: i % 1000}
	}
	if got, found := rule.Oldest(list, all, 999); !found || got != list[999] {
		t.Errorf("%+v, %t", got, found)
	}
	list[len(list)-1].Age = 1000
	if got, found := rule.Oldest(list, all, 1000); !found || got != list[len(list)-1] {
		t.Errorf("%+v, %t", got, found)
	}
	list[0].Age = 1000
	if got, found := rule.Oldest(list, all, 1000); !found || got != list[0] {
		t.Errorf("%+v, %t", got, found)
	}
}
