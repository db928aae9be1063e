package link

import (
	"math"
	"testing"

	"paternoster/api"
)

// TestSilentEnds: P8.2: a link is silent for the limit at most. It is put there by hand, as no test lets 2^40 ticks pass.
func TestSilentEnds(t *testing.T) {
	l := New()
	l.Take(7)
	l.silent = api.Limit - 2
	for _, want := range []int{api.Limit - 1, api.Limit, api.Limit, api.Limit} {
		l.Tick()
		if got := l.Silent(); got != want {
			t.Errorf("silent for %d, not %d", got, want)
		}
	}
	if l.Live(api.Limit) || !l.Live(api.Limit+1) || !l.Live(math.MaxInt) {
		t.Error("live is below the ticks, at the limit too")
	}
	if e := l.Take(7); e != api.ErrOld || l.Silent() != api.Limit {
		t.Errorf("the same number: %d, silent for %d", e, l.Silent())
	}
	if e := l.Take(8); e != api.OK || l.Silent() != 0 {
		t.Errorf("the next number: %d, silent for %d", e, l.Silent())
	}
}
