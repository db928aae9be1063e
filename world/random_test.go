package world_test

import (
	"math"
	"math/rand"
	"slices"
	"testing"

	"paternoster/api"
)

// anySite gives a right site, with few floors and short times, so that much happens.
func anySite(r *rand.Rand) api.Site {
	return api.Site{
		Floors: 2 + r.Intn(7), Cars: 1 + r.Intn(4),
		Start: r.Intn(3), Step: 1 + r.Intn(2), Stop: r.Intn(3),
		Open: 1 + r.Intn(2), Wait: 1 + r.Intn(3), Close: 1 + r.Intn(2), Nudge: r.Intn(3),
		Age: 1 + r.Intn(60), Silent: 1 + r.Intn(6), Budget: 1 + r.Intn(40), Period: 1 + r.Intn(7),
	}
}

// anyPress gives a press that mostly can be.
func anyPress(r *rand.Rand, s api.Site) api.Event {
	c := api.Call{Floor: r.Intn(s.Floors), Car: r.Intn(s.Cars), Age: r.Intn(3)}
	if r.Intn(2) == 0 {
		c.Car, c.Up = -1, r.Intn(2) == 0
	}
	return press(c)
}

// anyEvent gives an event, mostly one that there may be; those that keep cars from serving end sooner or later.
func anyEvent(r *rand.Rand, s api.Site, now int) api.Event {
	n := r.Intn(s.Cars)
	switch r.Intn(24) {
	case 0, 1, 2:
		return anyPress(r, s)
	case 3, 4:
		return happens(api.EvLose, n)
	case 5, 6:
		return happens(api.EvBlock, n)
	case 7:
		return happens(api.EvAgain, 1+r.Intn(now+1))
	case 8:
		return happens(api.EvAgain, 1+r.Intn(6))
	case 9:
		return api.Event{Kind: api.EvFault, A: n, On: r.Intn(3) == 0}
	case 10:
		return api.Event{Kind: api.EvOver, A: n, On: r.Intn(3) == 0}
	case 11:
		return anySwitch(r, s)
	case 12:
		return wildEvent(r)
	}
	return tick
}

// anySwitch gives a switch that is turned, mostly off.
func anySwitch(r *rand.Rand, s api.Site) api.Event {
	which := 1 + r.Intn(3)
	of := r.Intn(s.Cars)
	if which == api.SwitchBar {
		of = r.Intn(s.Floors)
	}
	return turn(which, of, r.Intn(4) == 0)
}

// wildEvent gives an event of which any number may be any.
func wildEvent(r *rand.Rand) api.Event {
	any := func() int {
		list := []int{math.MinInt, -1 << 32, -256, -2, -1, 0, 1, 2, 3, 4, 5, 7, 8, 9, 63, 64, 128, 254, 255, 256, 257, 65536, 1 << 32, 1 << 40, math.MaxInt}
		return list[r.Intn(len(list))]
	}
	kind := 1 + r.Intn(7)
	if r.Intn(4) == 0 {
		kind = any()
	}
	return api.Event{Kind: kind, A: any(), B: any(), On: r.Intn(2) == 0, Call: api.Call{Floor: any(), Car: any(), Age: any(), Up: r.Intn(2) == 0}}
}

// TestAgainstModel: P17.1 and P17.2, P1 and P2; events of all kinds, each held to the model; in no tick is anything wrong.
func TestAgainstModel(t *testing.T) {
	r := rand.New(rand.NewSource(17))
	var kinds [10]int
	errs, notes := map[api.Errno]int{}, map[int]int{}
	for range 120 {
		s := anySite(r)
		b, m := start(t, s), newModel(s)
		for range 1200 {
			e := anyEvent(r, s, b.Now())
			got, want := b.Do(e), m.do(e)
			if got != want {
				t.Fatalf("%+v, tick %d, %+v: %d, not %d", s, b.Now(), e, got, want)
			}
			same(t, b, m, e)
			if len(b.Faults()) != 0 {
				t.Fatalf("%+v, tick %d: faults %v", s, b.Now(), b.Faults())
			}
			errs[got]++
			if got == api.OK {
				kinds[e.Kind]++
			}
			if e == tick {
				for _, n := range b.Group().Notes() {
					notes[n.Kind]++
				}
			}
		}
	}
	if slices.Min(kinds[1:9]) < 1000 || errs[api.ErrArg] < 500 || errs[api.ErrRange] < 500 {
		t.Errorf("so many of each kind, and error: %v, %v", kinds, errs)
	}
	for _, kind := range []int{api.NoteOld, api.NoteWrong, api.NoteBest, api.NotePlan, api.NoteServe, api.NoteLost} {
		if notes[kind] < 500 {
			t.Errorf("too few notes: %v", notes)
		}
	}
}

// TestFullHouse: P17.1 and P17.2 at the limits, beside the model; 64 floors, eight cars, and more presses than there is room for.
func TestFullHouse(t *testing.T) {
	r := rand.New(rand.NewSource(64))
	s := house(8)
	s.Floors, s.Start, s.Stop, s.Age, s.Budget, s.Period = 64, 0, 0, 200, 200, 3
	b, m := start(t, s), newModel(s)
	full := 0
	for range 300 {
		for range 30 {
			e := anyPress(r, s)
			b.does(e)
			m.do(e)
		}
		b.ticks(1)
		m.tick()
		same(t, b, m, tick)
		for _, n := range b.Group().Notes() {
			if n.Kind == api.NoteFull {
				full++
			}
		}
	}
	if full < 500 {
		t.Errorf("%d presses without room", full)
	}
}

// TestSafeBehindARound: P17.2, behind more ticks than there are numbers; what comes again is from the last half of a round.
func TestSafeBehindARound(t *testing.T) {
	// Reports from ahead of that half are newer again by layer 8's own words, and the group goes by them, though no car may stand where they tell.
	const half = 32769
	r := rand.New(rand.NewSource(65536))
	s := house(2)
	s.Period, s.Budget = 5, 10
	b := start(t, s)
	for b.Now() < 70_000 {
		switch r.Intn(12) {
		case 0:
			b.does(anyPress(r, s))
		case 1:
			b.Do(happens(api.EvAgain, half-r.Intn(half)))
		case 2:
			b.does(happens(api.EvBlock, r.Intn(2)))
		default:
			b.ticks(1)
		}
	}
}

// TestSameAgain: P2; the same events give the same answers, whatever is asked in between.
func TestSameAgain(t *testing.T) {
	r := rand.New(rand.NewSource(2))
	for range 20 {
		s := anySite(r)
		one, other := start(t, s), start(t, s)
		for range 300 {
			e := anyEvent(r, s, one.Now())
			a := one.Do(e)
			one.Cars()
			one.Told()
			one.Faults()
			one.Group().Calls()
			one.Group().May(0, api.Call{Car: -1})
			if z := other.Do(e); a != z || one.Now() != other.Now() || !slices.Equal(one.Cars(), other.Cars()) || !slices.Equal(one.Told(), other.Told()) || !slices.Equal(one.Group().Notes(), other.Group().Notes()) {
				t.Fatalf("%+v, %+v: %d and %d", s, e, a, z)
			}
		}
	}
}
