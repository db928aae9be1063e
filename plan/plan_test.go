package plan_test

import (
	"math"
	"slices"
	"testing"

	"paternoster/api"
	"paternoster/plan"
)

// building gives a right site of so many cars, with nine floors.
func building(cars int) api.Site {
	return api.Site{Floors: 9, Cars: cars, Start: 2, Step: 3, Stop: 4, Open: 5, Wait: 11, Close: 6, Nudge: 2, Age: 500, Silent: 20, Budget: 700, Period: 17}
}

// snap gives a right snapshot of so many cars, whose wants have these Cars.
func snap(cars int, masks ...int) api.Snap {
	s := api.Snap{Site: building(cars)}
	for n := range cars {
		s.Cars = append(s.Cars, api.Ready{Floor: n, After: 3 * n})
	}
	for n, mask := range masks {
		s.Wants = append(s.Wants, api.Want{Floor: n % 9, Cars: mask})
	}
	return s
}

// clone gives a snapshot that shares no list with another one.
func clone(s api.Snap) api.Snap {
	s.Cars, s.Wants = slices.Clone(s.Cars), slices.Clone(s.Wants)
	return s
}

// same tells whether two snapshots are one.
func same(a, b api.Snap) bool {
	return a.Site == b.Site && slices.Equal(a.Cars, b.Cars) && slices.Equal(a.Wants, b.Wants)
}

// wrongSnaps has snapshots that aren't right, each by one thing alone.
func wrongSnaps() map[string]api.Snap {
	turns := map[string]func(*api.Snap){
		"no cars":              func(s *api.Snap) { s.Cars = nil },
		"a car too few":        func(s *api.Snap) { s.Cars = s.Cars[:2] },
		"a car too many":       func(s *api.Snap) { s.Cars = append(s.Cars, api.Ready{}) },
		"a car below":          func(s *api.Snap) { s.Cars[0].Floor = -1 },
		"a car above":          func(s *api.Snap) { s.Cars[2].Floor = 9 },
		"a car far above":      func(s *api.Snap) { s.Cars[1].Floor = 1 << 32 },
		"a car ready ahead":    func(s *api.Snap) { s.Cars[1].After = -1 },
		"a car ready too late": func(s *api.Snap) { s.Cars[2].After = 1000001 },
		"a want below":         func(s *api.Snap) { s.Wants[0].Floor = -1 },
		"a want above":         func(s *api.Snap) { s.Wants[1].Floor = 9 },
		"a want without cars":  func(s *api.Snap) { s.Wants[0].Cars = 0 },
		"another car":          func(s *api.Snap) { s.Wants[1].Cars = 8 },
		"another car besides":  func(s *api.Snap) { s.Wants[1].Cars = 15 },
		"a far car besides":    func(s *api.Snap) { s.Wants[0].Cars = 1<<40 + 7 },
		"all bits":             func(s *api.Snap) { s.Wants[0].Cars = -1 },
		"the last bit besides": func(s *api.Snap) { s.Wants[0].Cars = math.MinInt + 7 },
		"too many wants":       func(s *api.Snap) { s.Wants = slices.Repeat([]api.Want{{Cars: 7}}, 129) },
		"a site without cars":  func(s *api.Snap) { s.Site.Cars, s.Cars = 0, nil },
		"a site of nine cars":  func(s *api.Snap) { s.Site.Cars, s.Cars = 9, make([]api.Ready, 9) },
		"a site of one floor":  func(s *api.Snap) { *s = snap(3, 7); s.Cars = make([]api.Ready, 3); s.Site.Floors = 1 },
		"a site of 65 floors":  func(s *api.Snap) { s.Site.Floors = 65 },
		"a site without Age":   func(s *api.Snap) { s.Site.Age = 0 },
		"a site without steps": func(s *api.Snap) { s.Site.Step = 0 },
		"a site below none":    func(s *api.Snap) { s.Site.Cars, s.Site.Floors = math.MinInt, math.MinInt },
		"a site beyond all":    func(s *api.Snap) { s.Site.Cars, s.Site.Floors = math.MaxInt, math.MaxInt },
		"nothing":              func(s *api.Snap) { *s = api.Snap{} },
	}
	list := map[string]api.Snap{}
	for name, turn := range turns {
		s := snap(3, 7, 7)
		turn(&s)
		list[name] = s
	}
	return list
}

// edges has the ints about some numbers, and those that are far from all.
func edges(about ...int) []int {
	list := []int{math.MinInt, math.MinInt + 1, -1 << 40, -1 << 32, 1 << 32, 1 << 40, math.MaxInt - 1, math.MaxInt}
	for _, n := range about {
		list = append(list, n-1, n, n+1)
	}
	return list
}

// TestRightNumbers: P9.1, and P1 and P2 of Right; each number of a car and of a want, at each place, at its bounds and beyond them.
func TestRightNumbers(t *testing.T) {
	for cars := 1; cars <= 8; cars++ {
		all := 1<<cars - 1
		for _, c := range []struct {
			name        string
			of          func(*api.Snap, int) *int
			places      int
			least, most int
		}{
			{"a car's Floor", func(s *api.Snap, n int) *int { return &s.Cars[n].Floor }, cars, 0, 8},
			{"After", func(s *api.Snap, n int) *int { return &s.Cars[n].After }, cars, 0, 1000000},
			{"a want's Floor", func(s *api.Snap, n int) *int { return &s.Wants[n].Floor }, 4, 0, 8},
			{"Cars", func(s *api.Snap, n int) *int { return &s.Wants[n].Cars }, 4, 1, all},
		} {
			for place := range c.places {
				for _, n := range edges(0, 1, c.least, c.most, 4, 128, 256) {
					s := snap(cars, all, 1, all, 1)
					*c.of(&s, place) = n
					want := n >= c.least && n <= c.most
					for range 2 {
						if got := plan.Right(s); got != want {
							t.Errorf("with %d cars and %s %d at %d: %t", cars, c.name, n, place, got)
						}
					}
				}
			}
		}
	}
}

// TestRightFloors: P9.1; the floors are those of the snapshot's own site.
func TestRightFloors(t *testing.T) {
	for _, floors := range []int{2, 3, 63, 64} {
		for _, floor := range edges(0, 2, floors, 64) {
			s := snap(1, 1)
			s.Site.Floors, s.Cars[0].Floor = floors, floor
			w := snap(1, 1)
			w.Site.Floors, w.Wants[0].Floor = floors, floor
			want := floor >= 0 && floor < floors
			if plan.Right(s) != want || plan.Right(w) != want {
				t.Errorf("of %d floors, %d: %t of a car, %t of a want", floors, floor, plan.Right(s), plan.Right(w))
			}
		}
	}
}

// TestRightCounts: P9.1; how many cars and wants there are.
func TestRightCounts(t *testing.T) {
	for cars := -1; cars <= 10; cars++ {
		for count := range 11 {
			s := api.Snap{Site: building(cars), Cars: make([]api.Ready, count)}
			if want := count == cars && cars >= 1 && cars <= 8; plan.Right(s) != want {
				t.Errorf("a site of %d cars, and %d of them: %t", cars, count, plan.Right(s))
			}
		}
	}
	for _, count := range []int{0, 1, 2, 127, 128, 129, 130, 256, 5000} {
		s := snap(2, slices.Repeat([]int{3}, count)...)
		if want := count <= 128; plan.Right(s) != want {
			t.Errorf("%d wants: %t", count, plan.Right(s))
		}
	}
}

// TestWrongSnaps: P9.1 and P9.2 of snapshots that aren't right, beside the one that they were made of.
func TestWrongSnaps(t *testing.T) {
	if !plan.Right(snap(3, 7, 7)) || !plan.Feasible(snap(3, 7, 7), api.Plan{{1}, nil, {0}}) {
		t.Error("the right one isn't")
	}
	for name, s := range wrongSnaps() {
		before := clone(s)
		if plan.Right(s) {
			t.Errorf("%s: right", name)
		}
		for _, p := range []api.Plan{{{1}, nil, {0}}, {{0, 1}, nil, nil}, {nil, nil, nil}, {{0, 1}}, {{0}, nil, nil}, {}, nil} {
			if plan.Feasible(s, p) {
				t.Errorf("%s: %v is feasible", name, p)
			}
		}
		for p := range plan.All(s) {
			t.Errorf("%s: it has the plan %v", name, p)
			break
		}
		if !same(s, before) {
			t.Errorf("%s: the snapshot was changed", name)
		}
	}
}

// feasibleByWords counts how often each want stands, and where, as the chapter tells it.
func feasibleByWords(s api.Snap, p api.Plan) bool {
	if len(p) != len(s.Cars) {
		return false
	}
	times := map[int]int{}
	for car, list := range p {
		for _, place := range list {
			times[place]++
			if place < 0 || place >= len(s.Wants) || s.Wants[place].Cars&(1<<car) == 0 {
				return false
			}
		}
	}
	for place := range s.Wants {
		if times[place] != 1 {
			return false
		}
	}
	return true
}

// writings gives all lists of such a length whose numbers are least to most.
func writings(length, least, most int) [][]int {
	if length == 0 {
		return [][]int{nil}
	}
	var all [][]int
	for _, list := range writings(length-1, least, most) {
		for n := least; n <= most; n++ {
			all = append(all, append(slices.Clone(list), n))
		}
	}
	return all
}

// cut makes a writing a plan: a list ends where the mark stands, and the last one with the writing.
func cut(writing []int, mark int) api.Plan {
	p := api.Plan{nil}
	for _, n := range writing {
		if n == mark {
			p = append(p, nil)
		} else {
			p[len(p)-1] = append(p[len(p)-1], n)
		}
	}
	return p
}

// TestFeasible: P9.1, and P1 and P2 of Feasible; of every short plan, with places that there aren't, and wants that stand twice, or nowhere.
func TestFeasible(t *testing.T) {
	const mark = 4
	feasible := 0
	for _, s := range []api.Snap{
		snap(1), snap(1, 1), snap(1, 1, 1), snap(1, 1, 1, 1),
		snap(2), snap(2, 1), snap(2, 2), snap(2, 3), snap(2, 3, 1), snap(2, 2, 2), snap(2, 3, 3), snap(2, 1, 2, 3), snap(2, 3, 3, 3),
		snap(3), snap(3, 4), snap(3, 5, 2), snap(3, 7, 6), snap(3, 7, 7, 7), snap(3, 1, 2, 4), snap(3, 3, 6, 5),
	} {
		for length := range 7 {
			for _, writing := range writings(length, -1, mark) {
				p := cut(writing, mark)
				want := feasibleByWords(s, p)
				if want {
					feasible++
				}
				if got := plan.Feasible(s, p); got != want {
					t.Fatalf("%v of %+v: %t", p, s.Wants, got)
				}
			}
		}
	}
	if feasible < 100 {
		t.Errorf("only %d were feasible", feasible)
	}
}

// TestFeasibleByHand: P9.1, without a model: of three cars, and wants of the first, of the last two, of all.
func TestFeasibleByHand(t *testing.T) {
	s := snap(3, 1, 6, 7)
	for _, c := range []struct {
		name string
		p    api.Plan
		want bool
	}{
		{"each its own", api.Plan{{0}, {1}, {2}}, true},
		{"an empty list", api.Plan{{0, 2}, {}, {1}}, true},
		{"a nil list", api.Plan{{2, 0}, nil, {1}}, true},
		{"two in the last list", api.Plan{{0}, nil, {2, 1}}, true},
		{"no lists", nil, false},
		{"no lists at all", api.Plan{}, false},
		{"empty lists", api.Plan{{}, {}, {}}, false},
		{"a list too few", api.Plan{{0, 2}, {1}}, false},
		{"an empty list too many", api.Plan{{0}, {1}, {2}, {}}, false},
		{"a list of a car that there isn't", api.Plan{{0}, {1}, {}, {2}}, false},
		{"the first want left out", api.Plan{nil, {1}, {2}}, false},
		{"the last want left out", api.Plan{{0}, {1}, nil}, false},
		{"twice in one list", api.Plan{{0, 0}, {1}, {2}}, false},
		{"twice in two lists", api.Plan{{0, 2}, {1}, {2}}, false},
		{"twice, and another one left out", api.Plan{{0}, {1, 1}, nil}, false},
		{"not the first car's", api.Plan{{0, 1}, nil, {2}}, false},
		{"the first car's alone", api.Plan{nil, {0, 1}, {2}}, false},
		{"a place behind the last one", api.Plan{{0}, {1}, {2, 3}}, false},
		{"such a place instead of one", api.Plan{{0}, {1}, {3}}, false},
		{"a place ahead of the first one", api.Plan{{-1, 0}, {1}, {2}}, false},
		{"a place far ahead", api.Plan{{0, math.MinInt}, {1}, {2}}, false},
		{"a place far behind", api.Plan{{0}, {1}, {2, math.MaxInt}}, false},
		{"a place that wraps round", api.Plan{{1 << 32}, {1}, {2}}, false},
	} {
		for range 2 {
			if got := plan.Feasible(s, c.p); got != c.want {
				t.Errorf("%s: %v is %t", c.name, c.p, got)
			}
		}
	}
}

// TestFeasibleGreat: P9.1 at the limits: 8 cars and 128 wants, each place turned wrong by itself.
func TestFeasibleGreat(t *testing.T) {
	s, p := snap(8), make(api.Plan, 8)
	for n := range 128 {
		s.Wants = append(s.Wants, api.Want{Cars: 1 << (n % 8)})
		p[n%8] = append(p[n%8], n)
	}
	if !plan.Feasible(s, p) {
		t.Fatal("a great plan isn't feasible")
	}
	for n := range 128 {
		list, place := p[n%8], n/8
		for _, other := range []int{-1, 128, (n + 1) % 128, (n + 8) % 128} {
			list[place] = other
			if plan.Feasible(s, p) {
				t.Errorf("feasible with %d instead of %d", other, n)
			}
		}
		list[place] = n
	}
	long := slices.Repeat([]int{0}, 1<<20)
	if plan.Feasible(s, api.Plan{long, long, long, long, long, long, long, long}) || plan.Feasible(s, make(api.Plan, 1<<20)) {
		t.Error("a plan is feasible that is far too long")
	}
}

// TestFeasibleLeaves: rule 4 of Right and Feasible; what is handed in isn't changed, in the room behind its end neither.
func TestFeasibleLeaves(t *testing.T) {
	s := snap(2, 3, 3, 3)
	before := clone(s)
	for _, p := range []api.Plan{{{2, 0, 7}, {1, 8, 9}}, {{2, 0, 7}, {0, 8, 9}}} {
		was := [][]int{slices.Clone(p[0]), slices.Clone(p[1])}
		plan.Right(s)
		plan.Feasible(s, api.Plan{p[0][:2], p[1][:1]})
		if !slices.Equal(p[0], was[0]) || !slices.Equal(p[1], was[1]) || !same(s, before) {
			t.Errorf("%v and %+v, which were %v and %+v", p, s, was, before)
		}
	}
}
