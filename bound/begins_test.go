package bound_test

import (
	"math"
	"slices"
	"testing"

	"paternoster/api"
	"paternoster/bound"
)

// beginsByWords tells whether a plan begins so, want by want, as the chapter tells it.
func beginsByWords(p api.Plan, car int, begin api.Plan) bool {
	if car < 0 || car >= len(p) || car >= len(begin) {
		return false
	}
	for n := range car + 1 {
		if n < car && len(p[n]) != len(begin[n]) || len(p[n]) < len(begin[n]) {
			return false
		}
		for i, want := range begin[n] {
			if p[n][i] != want {
				return false
			}
		}
	}
	return true
}

// TestBegins: P11.1, and P1 and P2 of Begins; all pairs of short plans, however many lists they have, and all cars.
func TestBegins(t *testing.T) {
	var plans []api.Plan
	for length := range 5 {
		for _, writing := range writings(length, 0, 2) {
			plans = append(plans, cut(writing, 2))
		}
	}
	plans = append(plans, nil, api.Plan{})
	count := 0
	for _, p := range plans {
		for _, begin := range plans {
			for car := -1; car <= 5; car++ {
				want := beginsByWords(p, car, begin)
				if want {
					count++
				}
				for range 2 {
					if got := bound.Begins(p, car, begin); got != want {
						t.Fatalf("%v, the car %d, %v: %t", p, car, begin, got)
					}
				}
			}
		}
	}
	if count < 500 {
		t.Errorf("only %d began so", count)
	}
}

// TestBeginsByHand: P11.1, without a model.
func TestBeginsByHand(t *testing.T) {
	p := api.Plan{{4, 1}, {}, {0, 2, 3}}
	for _, c := range []struct {
		name  string
		car   int
		begin api.Plan
		want  bool
	}{
		{"without lists", 0, api.Plan{nil, nil, nil}, true},
		{"a part of the first list", 0, api.Plan{{4}, nil, nil}, true},
		{"all of the first list", 0, api.Plan{{4, 1}, nil, nil}, true},
		{"more than the first list", 0, api.Plan{{4, 1, 0}, nil, nil}, false},
		{"the first list in another order", 0, api.Plan{{1, 4}, nil, nil}, false},
		{"another want", 0, api.Plan{{1}, nil, nil}, false},
		{"the next car, all of the first list", 1, api.Plan{{4, 1}, nil, nil}, true},
		{"the next car, a part of the first list", 1, api.Plan{{4}, nil, nil}, false},
		{"the next car, none of the first list", 1, api.Plan{nil, nil, nil}, false},
		{"the next car, more than the first list", 1, api.Plan{{4, 1, 0}, nil, nil}, false},
		{"the next car, and a want that it hasn't", 1, api.Plan{{4, 1}, {0}, nil}, false},
		{"the last car", 2, api.Plan{{4, 1}, nil, nil}, true},
		{"the last car, a part", 2, api.Plan{{4, 1}, nil, {0, 2}}, true},
		{"the last car, another part", 2, api.Plan{{4, 1}, nil, {2, 3}}, false},
		{"the plan itself", 2, api.Plan{{4, 1}, {}, {0, 2, 3}}, true},
		{"a car behind the last one", 3, p, false},
		{"a car behind, which the beginning has", 3, api.Plan{{4, 1}, nil, {0, 2, 3}, nil}, false},
		{"a car that the beginning hasn't", 1, api.Plan{{4, 1}}, false},
		{"no lists", 0, nil, false},
		{"a car ahead of the first one", -1, p, false},
		{"a car far ahead", math.MinInt, p, false},
		{"a car far behind", math.MaxInt, p, false},
		{"a car that wraps round", 1 << 32, p, false},
	} {
		if got := bound.Begins(p, c.car, c.begin); got != c.want {
			t.Errorf("%s: %t", c.name, got)
		}
	}
	if bound.Begins(nil, 0, nil) || bound.Begins(nil, 0, api.Plan{nil}) || bound.Begins(api.Plan{}, -1, api.Plan{}) {
		t.Error("a plan without lists begins so")
	}
	long := api.Plan{slices.Repeat([]int{7}, 1<<16)}
	if !bound.Begins(long, 0, api.Plan{{7, 7}}) || !bound.Begins(long, 0, long) || bound.Begins(api.Plan{{7, 7}}, 0, long) {
		t.Error("a long list")
	}
}
