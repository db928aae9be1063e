package world

import (
	"slices"
	"testing"

	"paternoster/api"
	"paternoster/safe"
)

// TestFaultsAreTold: P17.1; Faults tells what layer 16 tells of the last tick. As no event leads to a fault, a car is spoilt by hand.
func TestFaultsAreTold(t *testing.T) {
	w, _ := New(api.Site{Floors: 6, Cars: 2, Start: 1, Step: 1, Stop: 1, Open: 1, Wait: 2, Close: 1, Nudge: 1, Age: 30, Silent: 3, Budget: 100, Period: 1})
	tick := api.Event{Kind: api.EvTick}
	ask := func(name string, want ...int) {
		t.Helper()
		if got := w.Faults(); !slices.Equal(got, want) {
			t.Errorf("%s: %v, not %v", name, got, want)
		}
	}
	w.Do(tick)
	ask("a tick that may be")
	w.cars[1].Car = api.Car{Floor: 2, Target: 4, Ticks: 40}
	ask("of the last tick still")
	w.Do(tick)
	ask("more ticks than the way has", safe.Leap)
	w.Faults()[0] = safe.Young
	ask("an answer that was changed", safe.Leap)
	w.Do(api.Event{Kind: api.EvBlock})
	ask("no tick has passed", safe.Leap)
	w.cars[1].Car = api.Car{Floor: 2, Target: 2}
	w.Do(tick)
	ask("a tick that may be, again")
}
