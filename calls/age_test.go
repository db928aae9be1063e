package calls

import (
	"testing"

	"paternoster/api"
)

// TestAgeEnds: P6.2: a call is as old as the limit at most. It is put there by hand, as no test lets 2^40 ticks pass.
func TestAgeEnds(t *testing.T) {
	b := New(api.Site{Floors: 9, Cars: 3})
	b.Press(api.Call{Floor: 3, Car: hall, Up: true})
	b.Press(api.Call{Floor: 3, Car: 2})
	b.waiting[0].Age = api.Limit - 2
	for _, want := range []int{api.Limit - 1, api.Limit, api.Limit, api.Limit} {
		b.Tick()
		if got := b.All()[0].Age; got != want {
			t.Errorf("a call is %d ticks old, not %d", got, want)
		}
	}
	if got := b.All()[1].Age; got != 4 {
		t.Errorf("a young call is %d ticks old", got)
	}
}
