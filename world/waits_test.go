package world_test

import (
	"math/rand"
	"slices"
	"testing"

	"paternoster/api"
	"paternoster/site"
)

// guests is people who press and stand in doors, in no door for more than hold ticks on end.
type guests struct {
	bench
	r     *rand.Rand
	s     api.Site
	hold  int
	stood []int // for how many ticks on end somebody has stood in each door
}

func invite(t *testing.T, r *rand.Rand, s api.Site, hold int) *guests {
	t.Helper()
	return &guests{start(t, s), r, s, hold, make([]int, s.Cars)}
}

// stand lets somebody stand in each door, as long as may be; with a tick between, where that is all.
func (g *guests) stand() {
	for n := range g.stood {
		if g.stood[n] == g.hold || g.r.Intn(12) == 0 {
			g.stood[n] = 0
			continue
		}
		g.does(happens(api.EvBlock, n))
		g.stood[n]++
	}
}

// harass lets a car that isn't the good one be of no use, mostly for a while.
func (g *guests) harass(good int) {
	n := g.r.Intn(g.s.Cars)
	if n == good {
		return
	}
	switch g.r.Intn(4) {
	case 0:
		g.does(happens(api.EvLose, n))
	case 1:
		g.does(api.Event{Kind: api.EvFault, A: n, On: g.r.Intn(2) == 0})
	case 2:
		g.does(api.Event{Kind: api.EvOver, A: n, On: g.r.Intn(2) == 0})
	case 3:
		g.does(turn(api.SwitchOut, n, g.r.Intn(2) == 0))
	}
}

// oldest gives how long the oldest of the calls has waited that a car may serve.
func (g *guests) oldest(n int) int {
	most := 0
	for _, c := range g.Group().Calls() {
		if c.Car == -1 || c.Car == n {
			most = max(most, c.Age)
		}
	}
	return most
}

// TestWaits: P17.3; crowds press all the time, and stand in the doors as long as may be, and one car alone is always of use.
// None of its reports is lost: it may be live without those of its open door, but then the group doesn't know that it was open.
func TestWaits(t *testing.T) {
	r := rand.New(rand.NewSource(173))
	const sites = 12
	grown := 0 // in how many of them calls have become old
	for range sites {
		s := anySite(r)
		s.Silent, s.Budget = 2+r.Intn(3), 1+r.Intn(5)
		hold := r.Intn(4)
		g, good, bound := invite(t, r, s, hold), r.Intn(s.Cars), site.Bound(s, hold)
		old := 0
		for range bound + 500 {
			for range r.Intn(4) {
				g.does(anyPress(r, s))
			}
			g.stand()
			g.harass(good)
			if r.Intn(20) == 0 && g.Now() > 0 {
				g.does(happens(api.EvAgain, 1+r.Intn(min(g.Now(), 32000))))
			}
			g.ticks(1)
			if x := g.Group().Seen(good); !x.Live || x.Out || x.Fault || x.Over {
				t.Fatalf("the good car is none: %v", x)
			}
			old = max(old, g.oldest(good))
			if old > bound {
				t.Fatalf("%+v, hold %d: a call waits for %d, not %d", s, hold, old, bound)
			}
		}
		if old > s.Age {
			grown++
		}
	}
	if grown < sites/2 {
		t.Errorf("in %d sites calls have become old", grown)
	}
}

// TestNobodyIsForgotten: P17.3; a call far away is served, though plans would serve the many near ones first, for ever.
func TestNobodyIsForgotten(t *testing.T) {
	s := house(1)
	s.Floors, s.Age, s.Budget = 60, 200, 30
	b := start(t, s)
	b.does(in(0, 59))
	gone := 0
	for b.Now() < site.Bound(s, 0) {
		b.does(up(b.Now()%2), in(0, b.Now()%2))
		b.ticks(1)
		if !slices.ContainsFunc(b.Group().Calls(), func(c api.Call) bool { return c.Floor == 59 }) {
			gone = b.Now()
			break
		}
	}
	if gone <= s.Age || gone > s.Age+3*site.Service(s, 0) {
		t.Errorf("it is served in the tick %d", gone)
	}
}

// TestAllAreServed: P17.3; the most calls that can wait, of one car, all pressed at once, are served within the Bound.
func TestAllAreServed(t *testing.T) {
	s := house(1)
	s.Floors, s.Age, s.Budget = 64, 1, 1
	hold := 3
	g := invite(t, rand.New(rand.NewSource(128)), s, hold)
	for floor := range s.Floors {
		g.does(up(floor), down(floor), in(0, floor))
	}
	g.ticks(1)
	if n := len(g.Group().Calls()); n < api.MaxCalls-1 {
		t.Fatalf("%d calls wait", n)
	}
	for len(g.Group().Calls()) > 0 && g.oldest(0) <= site.Bound(s, hold) {
		g.stand()
		g.ticks(1)
	}
	if n := len(g.Group().Calls()); n > 0 {
		t.Fatalf("%d calls wait for more than %d", n, site.Bound(s, hold))
	}
	// each one's door alone takes some ticks: they weren't taken out unserved
	if g.Now() < s.Floors*(s.Open+s.Wait+s.Close) {
		t.Errorf("all are served behind %d ticks", g.Now())
	}
}

// useless makes some cars useless for a recall, and tells which aren't.
func (g *guests) useless() []bool {
	good := make([]bool, g.s.Cars)
	for n := range good {
		g.does(isNot(api.EvFault, n), turn(api.SwitchOut, n, false))
		switch g.r.Intn(6) {
		case 0:
			g.does(is(api.EvFault, n))
		case 1:
			g.does(turn(api.SwitchOut, n, true))
		default:
			good[n] = true
		}
	}
	return good
}

// TestRecall: P17.4; wherever cars are, and whatever they do, those of use stand at the floor 0 in time, and stay, and serve nothing.
func TestRecall(t *testing.T) {
	r := rand.New(rand.NewSource(174))
	away := 0
	for range 150 {
		s := anySite(r)
		s.Silent = 2 + r.Intn(3)
		hold := r.Intn(4)
		g := invite(t, r, s, hold)
		for range 20 + r.Intn(60) {
			g.does(anyPress(r, s))
			g.stand()
			g.harass(-1)
			g.ticks(1)
		}
		good := g.useless()
		g.does(turn(api.SwitchRecall, r.Intn(9), true))
		for _, c := range g.Cars() {
			if c.Floor != 0 {
				away++
			}
		}
		waiting := 0
		for n := range 2*site.Service(s, hold) + 5 + 100 {
			g.does(anyPress(r, s), api.Event{Kind: api.EvOver, A: r.Intn(s.Cars), On: r.Intn(2) == 0})
			if n > 0 && r.Intn(8) == 0 {
				g.does(happens(api.EvAgain, 1+r.Intn(n))) // ticks of the recall alone: those ahead of it may end it
			}
			g.stand()
			g.ticks(1)
			if n >= 2*site.Service(s, hold)+4 {
				g.atHome(good)
			}
			if now := len(g.Group().Calls()); now < waiting {
				t.Fatalf("%+v: a call is served in a recall", s)
			} else {
				waiting = now
			}
		}
	}
	if away < 100 {
		t.Errorf("%d cars were elsewhere", away)
	}
}

// atHome asks that the cars that are of use stand at the floor 0.
func (g *guests) atHome(good []bool) {
	g.Helper()
	for n, c := range g.Cars() {
		if good[n] && (c.Floor != 0 || c.Ticks != 0) {
			g.Fatalf("%+v, hold %d, tick %d: the car %d is %+v", g.s, g.hold, g.Now(), n, c)
		}
	}
}

// TestRecallOpens: P17.4; a car in a recall goes to the floor 0 at once, opens there, again and again, and goes on serving behind it.
func TestRecallOpens(t *testing.T) {
	b := start(t, house(1))
	b.does(in(0, 5))
	b.ticks(4)
	b.does(turn(api.SwitchRecall, 0, true), up(0), in(0, 3))
	opened := 0
	for range 60 {
		b.ticks(1)
		if c := b.Cars()[0]; c.Floor == 0 && c.Door.Phase == api.Opened {
			opened++
		}
	}
	if opened < 8 || len(b.Group().Calls()) != 3 {
		t.Errorf("open for %d ticks; %v wait", opened, b.Group().Calls())
	}
	b.does(turn(api.SwitchRecall, 0, false))
	b.ticks(60)
	b.wait("behind the recall")
}
