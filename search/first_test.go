package search_test

import (
	"fmt"
	"math/rand"
	"slices"
	"testing"

	"paternoster/api"
	"paternoster/plan"
	"paternoster/search"
)

// building gives a right site of so many cars: 2 ticks to start, 3 for each floor, 4 to stop; 24 of a stop.
func building(cars int) api.Site {
	return api.Site{
		Floors: 9, Cars: cars, Start: 2, Step: 3, Stop: 4, Open: 5, Wait: 11, Close: 6,
		Age: 1, Silent: 1, Budget: 1, Period: 1,
	}
}

// random gives a right snapshot of so many cars and wants; its floors are few, so that wants share them, and many plans cost the same.
func random(r *rand.Rand, cars, wants int) api.Snap {
	s := api.Snap{Site: building(cars)}
	s.Site.Floors = 2 + r.Intn(5)
	s.Site.Start, s.Site.Step, s.Site.Stop = r.Intn(3), 1+r.Intn(3), r.Intn(3)
	s.Site.Open, s.Site.Wait, s.Site.Close = 1+r.Intn(3), 1+r.Intn(3), 1+r.Intn(3)
	for range cars {
		s.Cars = append(s.Cars, api.Ready{Floor: r.Intn(s.Site.Floors), After: r.Intn(20)})
	}
	for range wants {
		s.Wants = append(s.Wants, api.Want{Floor: r.Intn(s.Site.Floors), Cars: 1 + r.Intn(1<<cars-1)})
	}
	return s
}

// copyOf gives a snapshot that shares no list with another one.
func copyOf(s api.Snap) api.Snap {
	s.Cars, s.Wants = slices.Clone(s.Cars), slices.Clone(s.Wants)
	return s
}

// same tells whether two snapshots are one.
func same(a, b api.Snap) bool {
	return a.Site == b.Site && slices.Equal(a.Cars, b.Cars) && slices.Equal(a.Wants, b.Wants)
}

// samePlan tells whether two plans are one.
func samePlan(a, b api.Plan) bool { return slices.EqualFunc(a, b, slices.Equal) }

// served lets a car ride a list's floors, and gives when the last want is served.
func served(s api.Snap, car int, list []int) int {
	floor, here, leave := s.Cars[car].Floor, -1, s.Cars[car].After
	for _, want := range list {
		next := s.Wants[want].Floor
		if here >= 0 && next == floor {
			continue
		}
		here = leave
		if next != floor {
			here += s.Site.Start + s.Site.Step*(max(floor, next)-min(floor, next)) + s.Site.Stop
		}
		floor, leave = next, here+s.Site.Open+s.Site.Wait+s.Site.Close+2
	}
	return here
}

// firstByWords gives the first plan, as the chapter tells it: each list is ridden anew with the want at its end.
func firstByWords(s api.Snap) api.Plan {
	p := make(api.Plan, len(s.Cars))
	for want, w := range s.Wants {
		best, earliest := -1, 0
		for car := range s.Cars {
			if w.Cars&(1<<car) == 0 {
				continue
			}
			if time := served(s, car, append(slices.Clone(p[car]), want)); best < 0 || time < earliest {
				best, earliest = car, time
			}
		}
		p[best] = append(p[best], want)
	}
	return p
}

// TestFirst: P12.1 of First, and P1 and P2; up to the limits of cars and wants.
func TestFirst(t *testing.T) {
	r := rand.New(rand.NewSource(121))
	for cars := 1; cars <= 8; cars++ {
		for _, wants := range []int{0, 1, 2, 3, 5, 8, 20, 127, 128} {
			for range 30 {
				s := random(r, cars, wants)
				want := firstByWords(s)
				for range 2 {
					if got, e := search.First(s); e != api.OK || !samePlan(got, want) || len(got) != cars || !plan.Feasible(s, got) {
						t.Fatalf("%+v: %v, %d, not %v", s, got, e, want)
					}
				}
			}
		}
	}
}

// TestFirstByHand: P12.1 of First, without a model: 9 ticks and 3 for each floor on the way, and 24 of a stop.
func TestFirstByHand(t *testing.T) {
	cars := []api.Ready{{Floor: 0}, {Floor: 8, After: 4}, {Floor: 2, After: 0}}
	for _, c := range []struct {
		name  string
		wants []api.Want
		want  string
	}{
		{"no wants", nil, "[[] [] []]"},
		{"the earliest one", []api.Want{{Floor: 3, Cars: 7}}, "[[] [] [0]]"},
		{"the earliest one of those that may", []api.Want{{Floor: 3, Cars: 3}}, "[[0] [] []]"},
		{"one alone may", []api.Want{{Floor: 3, Cars: 2}}, "[[] [0] []]"},
		{"of two the least number", []api.Want{{Floor: 1, Cars: 7}}, "[[0] [] []]"},
		{"of two the least number, not the first one", []api.Want{{Floor: 2, Cars: 4}, {Floor: 0, Cars: 1}, {Floor: 1, Cars: 5}}, "[[1 2] [] [0]]"},
		{"behind what the list has", []api.Want{{Floor: 2, Cars: 4}, {Floor: 3, Cars: 5}}, "[[1] [] [0]]"},
		{"as late as another one, behind what the list has", []api.Want{{Floor: 2, Cars: 4}, {Floor: 4, Cars: 6}}, "[[] [1] [0]]"},
		{"at the stop ahead", []api.Want{{Floor: 5, Cars: 4}, {Floor: 5, Cars: 7}, {Floor: 5, Cars: 3}}, "[[] [2] [0 1]]"},
		{"not at a stop ahead of the last one", []api.Want{{Floor: 5, Cars: 4}, {Floor: 6, Cars: 4}, {Floor: 5, Cars: 5}}, "[[2] [] [0 1]]"},
		{"a car's own floor is no stop", []api.Want{{Floor: 8, Cars: 7}, {Floor: 8, Cars: 7}}, "[[] [0 1] []]"},
		{"in the wants' order", []api.Want{{Floor: 7, Cars: 1}, {Floor: 1, Cars: 1}, {Floor: 4, Cars: 1}}, "[[0 1 2] [] []]"},
	} {
		s := api.Snap{Site: building(3), Cars: cars, Wants: c.wants}
		if got, e := search.First(s); e != api.OK || fmt.Sprint(got) != c.want {
			t.Errorf("%s: %v, %d, not %s", c.name, got, e, c.want)
		}
	}
}

// TestFirstIsNew: rule 4 of First; what is handed in isn't changed, what is answered is new, and its lists share nothing.
func TestFirstIsNew(t *testing.T) {
	s := random(rand.New(rand.NewSource(4)), 3, 20)
	before := copyOf(s)
	p, _ := search.First(s)
	other, _ := search.First(s)
	holdApart(t, p)
	if again, _ := search.First(s); !samePlan(again, other) || !same(s, before) {
		t.Errorf("%v, not %v; %+v", again, other, s)
	}
}

// holdApart writes into all lists of a plan, and behind their ends, and holds that no list is another one's.
func holdApart(t *testing.T, p api.Plan) {
	t.Helper()
	for car := range p {
		rest := slices.Concat(p[car+1:]...)
		room := p[car][:cap(p[car])]
		for i := range room {
			room[i] = -7
		}
		if !slices.Equal(rest, slices.Concat(p[car+1:]...)) {
			t.Fatalf("the list of the car %d shares memory with one behind", car)
		}
		p[car] = nil
	}
}
