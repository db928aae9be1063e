package route

import (
	"slices"
	"testing"

	"paternoster/api"
)

// TestStops: a route's stops, in the order of the lists; they end where what ranges over them ends, within a list and at its end. Who calls the package sees no stop by itself, so it is asked from within.
func TestStops(t *testing.T) {
	s := api.Snap{
		Site:  api.Site{Floors: 9, Cars: 3, Start: 5, Step: 3, Stop: 4, Open: 5, Wait: 11, Close: 6, Nudge: 2, Age: 500, Silent: 20, Budget: 700, Period: 17},
		Cars:  []api.Ready{{Floor: 1, After: 3}, {Floor: 8}, {Floor: 4, After: 100}},
		Wants: []api.Want{{Floor: 3, Cars: 7}, {Floor: 1, Cars: 7}, {Floor: 3, Cars: 7}, {Floor: 0, Cars: 7}},
	}
	p := api.Plan{{1, 2, 0}, nil, {3}}
	type served struct {
		want int
		at   Stop
	}
	all := []served{{1, Stop{1, 3, 27}}, {2, Stop{3, 42, 66}}, {0, Stop{3, 42, 66}}, {3, Stop{0, 121, 145}}}
	for most := 1; most <= len(all)+1; most++ {
		var got []served
		stops(s, p)(func(want int, at Stop) bool {
			got = append(got, served{want, at})
			return len(got) < most
		})
		if !slices.Equal(got, all[:min(most, len(all))]) {
			t.Errorf("ended behind %d: %v", most, got)
		}
	}
}
