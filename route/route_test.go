package route_test

import (
	"math"
	"math/big"
	"testing"

	"paternoster/api"
	"paternoster/route"
)

const limit = api.Limit

// building gives a right site of so many cars, with nine floors: 9 ticks and 3 for each floor on the way, and 24 of a stop.
func building(cars int) api.Site {
	return api.Site{Floors: 9, Cars: cars, Start: 5, Step: 3, Stop: 4, Open: 5, Wait: 11, Close: 6, Nudge: 2, Age: 500, Silent: 20, Budget: 700, Period: 17}
}

// fields has the numbers that a route hangs on, with the least and the most that they may be.
var fields = []struct {
	of          func(*api.Site) *int
	least, most int
}{
	{func(s *api.Site) *int { return &s.Floors }, 2, 64},
	{func(s *api.Site) *int { return &s.Start }, 0, 1000},
	{func(s *api.Site) *int { return &s.Step }, 1, 1000},
	{func(s *api.Site) *int { return &s.Stop }, 0, 1000},
	{func(s *api.Site) *int { return &s.Open }, 1, 1000},
	{func(s *api.Site) *int { return &s.Wait }, 1, 1000},
	{func(s *api.Site) *int { return &s.Close }, 1, 1000},
}

// corners has an ordinary site, and all whose numbers are each the least or the most they may be.
func corners() []api.Site {
	list := []api.Site{building(3)}
	for mask := range 1 << len(fields) {
		s := building(1)
		for i, f := range fields {
			*f.of(&s) = f.least
			if mask>>i%2 == 1 {
				*f.of(&s) = f.most
			}
		}
		list = append(list, s)
	}
	return list
}

// wrongSites has sites that aren't right, most of them far from it.
func wrongSites() []api.Site {
	list := []api.Site{{}}
	for _, n := range []int{math.MinInt, math.MinInt + 1, -1 << 40, -1, 1 << 33, 1 << 40, 1 << 62, math.MaxInt - 1, math.MaxInt} {
		all := building(3)
		for _, f := range fields {
			one := building(3)
			*f.of(&one), *f.of(&all) = n, n
			list = append(list, one)
		}
		list = append(list, all)
	}
	return list
}

// walk counts a travel's ticks, floor by floor.
func walk(s api.Site, from, to int) int {
	if from == to || min(from, to) < 0 || max(from, to) >= s.Floors {
		return 0
	}
	ticks := s.Start + s.Stop
	for range max(from, to) - min(from, to) {
		ticks += s.Step
	}
	return ticks
}

// add adds two numbers without end, and cuts what comes out, and what goes in, at the limit.
func add(a, b int) int {
	cut := func(n *big.Int) *big.Int {
		if n.Cmp(big.NewInt(limit)) > 0 {
			return big.NewInt(limit)
		}
		if n.Cmp(big.NewInt(-limit)) < 0 {
			return big.NewInt(-limit)
		}
		return n
	}
	x, y := cut(big.NewInt(int64(a))), cut(big.NewInt(int64(b)))
	return int(cut(new(big.Int).Add(x, y)).Int64())
}

// nextByWords gives a stop as P10.1 tells it.
func nextByWords(s api.Site, at route.Stop, floor int) route.Stop {
	if at.Here != -1 && at.Floor == floor {
		return at
	}
	here := add(at.Leave, walk(s, at.Floor, floor))
	return route.Stop{Floor: floor, Here: here, Leave: add(here, s.Open+s.Wait+s.Close+2)}
}

// TestBegin: P10.1, and P1 and P2 of Begin; whatever numbers there are.
func TestBegin(t *testing.T) {
	list := []int{math.MinInt, -limit - 1, -limit, -2, -1, 0, 1, 8, 9, 63, 64, 1000000, 1000001, limit, limit + 1, math.MaxInt}
	for _, floor := range list {
		for _, after := range list {
			want := route.Stop{Floor: floor, Here: -1, Leave: after}
			for range 2 {
				if got := route.Begin(api.Ready{Floor: floor, After: after}); got != want {
					t.Errorf("at %d after %d: %+v", floor, after, got)
				}
			}
		}
	}
}

// TestNext: P10.1, and P2 of Next; of right sites at their corners, from stops, and from where a route begins.
func TestNext(t *testing.T) {
	for _, s := range corners() {
		places := []int{0, 1, s.Floors / 2, s.Floors - 2, s.Floors - 1, -1, s.Floors, s.Floors + 1, math.MinInt, math.MaxInt}
		for _, from := range places {
			for _, to := range places {
				for _, at := range []route.Stop{
					{Floor: from, Here: -1, Leave: 0},
					{Floor: from, Here: -1, Leave: 7},
					{Floor: from, Here: -1, Leave: 1000000},
					{Floor: from, Here: 0, Leave: 5},
					{Floor: from, Here: 30, Leave: 54},
					{Floor: from, Here: 12345678, Leave: 12345690},
				} {
					want := nextByWords(s, at, to)
					for range 2 {
						if got := route.Next(s, at, to); got != want {
							t.Fatalf("%+v from %+v to %d: %+v, not %+v", s, at, to, got, want)
						}
					}
				}
			}
		}
	}
}

// TestNextLimit: P10.1; sums stay within the limit, of stops that no route has.
func TestNextLimit(t *testing.T) {
	numbers := []int{
		math.MinInt, math.MinInt + 1, -limit - 1, -limit, 1 - limit, -100, -48, -25, -24, -12, -2, -1, 0, 1,
		limit - 100, limit - 37, limit - 36, limit - 35, limit - 25, limit - 24, limit - 23, limit - 13, limit - 12, limit - 11, limit - 1,
		limit, limit + 1, 2 * limit, math.MaxInt - 1, math.MaxInt,
	}
	s := building(3)
	for _, here := range numbers {
		for _, leave := range numbers {
			for _, floor := range []int{0, 1, 4, 8, 9, -1} {
				at := route.Stop{Floor: 4, Here: here, Leave: leave}
				if got, want := route.Next(s, at, floor), nextByWords(s, at, floor); got != want {
					t.Errorf("from %+v to %d: %+v, not %+v", at, floor, got, want)
				}
			}
		}
	}
}

// TestNextByHand: P10.1, without a model.
func TestNextByHand(t *testing.T) {
	s := building(3)
	for _, c := range []struct {
		name  string
		at    route.Stop
		floor int
		want  route.Stop
	}{
		{"the first stop, where the route begins", route.Stop{Floor: 3, Here: -1, Leave: 7}, 3, route.Stop{Floor: 3, Here: 7, Leave: 31}},
		{"the first stop, elsewhere", route.Stop{Floor: 3, Here: -1, Leave: 7}, 5, route.Stop{Floor: 5, Here: 22, Leave: 46}},
		{"the first stop, at once", route.Stop{Floor: 0, Here: -1, Leave: 0}, 0, route.Stop{Floor: 0, Here: 0, Leave: 24}},
		{"the same stop", route.Stop{Floor: 3, Here: 7, Leave: 31}, 3, route.Stop{Floor: 3, Here: 7, Leave: 31}},
		{"the same stop, at 0", route.Stop{Floor: 0, Here: 0, Leave: 24}, 0, route.Stop{Floor: 0, Here: 0, Leave: 24}},
		{"the same stop, whatever its numbers", route.Stop{Floor: 3, Here: -2, Leave: math.MaxInt}, 3, route.Stop{Floor: 3, Here: -2, Leave: math.MaxInt}},
		{"up", route.Stop{Floor: 3, Here: 7, Leave: 31}, 4, route.Stop{Floor: 4, Here: 43, Leave: 67}},
		{"down", route.Stop{Floor: 8, Here: 7, Leave: 31}, 0, route.Stop{Floor: 0, Here: 64, Leave: 88}},
		{"a floor that there isn't", route.Stop{Floor: 8, Here: 7, Leave: 31}, 9, route.Stop{Floor: 9, Here: 31, Leave: 55}},
		{"from a floor that there isn't", route.Stop{Floor: -1, Here: 7, Leave: 31}, 2, route.Stop{Floor: 2, Here: 31, Leave: 55}},
		{"at the limit", route.Stop{Floor: 3, Here: 7, Leave: limit - 5}, 4, route.Stop{Floor: 4, Here: limit, Leave: limit}},
		{"below the limit, and at it", route.Stop{Floor: 3, Here: 7, Leave: limit - 13}, 4, route.Stop{Floor: 4, Here: limit - 1, Leave: limit}},
	} {
		if got := route.Next(s, c.at, c.floor); got != c.want {
			t.Errorf("%s: %+v, not %+v", c.name, got, c.want)
		}
	}
}

// TestNextEnds: P1 and P2 of Next; of sites that aren't right it ends, with the same answer each time, and within the limit.
func TestNextEnds(t *testing.T) {
	numbers := []int{math.MinInt, -limit, -1, 0, 1, 5, 63, 64, limit, math.MaxInt}
	for _, s := range wrongSites() {
		for _, n := range numbers {
			for _, floor := range numbers {
				at := route.Stop{Floor: floor, Here: n, Leave: n}
				for _, to := range numbers {
					got := route.Next(s, at, to)
					if got != route.Next(s, at, to) {
						t.Fatalf("%+v from %+v to %d: %+v, then another one", s, at, to, got)
					}
					if got != at && (max(got.Here, got.Leave) > limit || min(got.Here, got.Leave) < -limit) {
						t.Fatalf("%+v from %+v to %d: %+v", s, at, to, got)
					}
				}
			}
		}
	}
}
