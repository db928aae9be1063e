package group_test

import (
	"slices"
	"testing"

	"paternoster/api"
)

// served gives a bench whose car 0 was told, at the floor 2, to open for a call: up, down, or in the car.
func served(t *testing.T, call api.Frame) *bench {
	t.Helper()
	b := newBench(t, house(6, 2))
	b.told("to open", b.tick(stands(0, 2, 0), call), open, nothing)
	return b
}

// TestServe: P15.1, what is served: by the side, and by each thing that a report must tell.
func TestServe(t *testing.T) {
	upCall, downCall, own := api.Call{Floor: 2, Car: -1, Up: true}, api.Call{Floor: 2, Car: -1}, api.Call{Floor: 2, Car: 0}
	for _, c := range []struct {
		name string
		call api.Frame
		f    api.Frame
		want []api.Call // what is served
	}{
		{"up", up(2), stands(0, 2, 2), []api.Call{upCall, own}},
		{"down", down(2), stands(0, 2, 2), []api.Call{downCall, own}},
		{"in the car", in(0, 2), stands(0, 2, 2), []api.Call{own}},
		{"with a fault", up(2), stands(0, 2, 2|api.BitFault), []api.Call{upCall, own}},
		{"overloaded", up(2), stands(0, 2, 2|api.BitOver), []api.Call{upCall, own}},
		{"its door shut", up(2), stands(0, 2, 0), nil},
		{"its door opening", up(2), stands(0, 2, 1), nil},
		{"its door closing", up(2), stands(0, 2, 3), nil},
		{"it moves", up(2), stands(0, 2, 2|api.BitMoves), nil},
		{"another floor", up(2), stands(0, 1, 2), nil},
		{"another car", up(2), stands(1, 2, 2), []api.Call{{Floor: 2, Car: 1}}},
		{"no report", up(2), up(5), nil},
	} {
		b := served(t, c.call)
		b.tick(up(2), down(2), in(0, 2), in(1, 2), up(3), in(0, 4), c.f)
		left := b.g.Calls()
		var notes []api.Note
		for _, note := range b.g.Notes() {
			if note.Kind == api.NoteServe {
				notes = append(notes, note)
			}
		}
		if !slices.Equal(notes, slices.Repeat([]api.Note{{Kind: api.NoteServe, N: 2}}, len(c.want))) || len(left) != 6-len(c.want) {
			t.Errorf("%s: %v, and %v are left", c.name, b.g.Notes(), left)
		}
		for _, one := range left {
			one.Age = 0
			if slices.Contains(c.want, one) {
				t.Errorf("%s: %+v is left", c.name, one)
			}
		}
	}
}

// TestServeOut: P15.1; a car that is out of service serves with its door open, as one that is in it does.
func TestServeOut(t *testing.T) {
	b := served(t, up(2))
	b.tick(stands(0, 2, 2), turn(api.SwitchOut, 1, 0))
	b.wait("out of service")
}

// TestServeStays: P15.1; the side stays while the door does, and until it is told to open again; a report that is old, or of another tick, serves nothing.
func TestServeStays(t *testing.T) {
	b := served(t, up(2))
	b.tick(stands(0, 2, 2))
	b.noted("served", api.Note{Kind: api.NoteServe, N: 2}, api.Note{Kind: api.NoteBest})
	b.tick(up(2))
	b.wait("no report", api.Call{Floor: 2, Car: -1, Age: 1, Up: true})
	b.seq = 0
	b.tick(stands(0, 2, 2))
	b.wait("an old one", api.Call{Floor: 2, Car: -1, Age: 2, Up: true})
	b.seq = 10
	b.tick(stands(0, 2, 2), down(2))
	b.wait("again", api.Call{Floor: 2, Car: -1, Age: 1})
	b.told("to go elsewhere", b.tick(stands(0, 3, 0)), goTo(2), nothing)
	b.tick(stands(0, 3, 2), up(3))
	b.wait("its side is still the one that it opened for", api.Call{Floor: 2, Car: -1, Age: 3})
	b.told("to open for the other one", b.tick(stands(0, 2, 0)), open, nothing)
	b.tick(stands(0, 2, 2), up(2))
	b.wait("the other one", api.Call{Floor: 2, Car: -1, Age: 1, Up: true})
}

// TestServeFirst: P15.1; a car that was never told to open serves neither side, only calls in it.
func TestServeFirst(t *testing.T) {
	b := newBench(t, house(6, 1))
	b.tick(stands(0, 2, 2), up(2), down(2), in(0, 2))
	b.wait("neither side", api.Call{Floor: 2, Car: -1, Age: 1, Up: true}, api.Call{Floor: 2, Car: -1, Age: 1})
}

// TestServeOrder: P15.1; the cars serve rising, and each one's calls in the order in which they came; served ahead of the plan.
func TestServeOrder(t *testing.T) {
	b := newBench(t, house(6, 3))
	b.tick(stands(0, 4, 0), stands(1, 2, 0), stands(2, 2, 0), in(2, 2), in(1, 2), in(0, 4))
	b.tick(in(1, 2), in(2, 2), in(0, 4), stands(2, 2, 2), stands(1, 2, 2), stands(0, 4, 2))
	b.noted("three cars", api.Note{Kind: api.NoteServe, N: 4}, api.Note{Kind: api.NoteServe, N: 2}, api.Note{Kind: api.NoteServe, N: 2}, api.Note{Kind: api.NoteBest})
}

// TestServeSilent: P15.1; a car that isn't live serves nothing: with Silent 1 none ever is.
func TestServeSilent(t *testing.T) {
	s := house(6, 1)
	s.Silent = 1
	b := newBench(t, s)
	b.tick(stands(0, 2, 2), in(0, 2))
	b.wait("never live", api.Call{Floor: 2, Car: 0, Age: 1})
}

// TestPeriod: P15.1 and P15.2; in which ticks it plans, and how many nodes are told in the others.
func TestPeriod(t *testing.T) {
	for _, period := range []int{1, 2, 3, 7, 1000} {
		s := house(6, 1)
		s.Period = period
		b := newBench(t, s)
		for now := range 2*period + 3 {
			b.tick(stands(0, 2, 1))
			if now%period == 0 {
				b.noted("a plan", api.Note{Kind: api.NoteBest})
			} else {
				b.noted("no plan")
			}
			if nodes := b.g.Nodes(); nodes != 0 != (now%period == 0) {
				t.Errorf("Period %d, tick %d: %d nodes", period, now, nodes)
			}
		}
	}
}

// TestSnapshot: P15.1; where and when each car is ready, as the cost of serving one call tells it.
func TestSnapshot(t *testing.T) {
	for _, c := range []struct {
		name string
		f    api.Frame
		cost int
	}{
		{"shut", stands(0, 2, 0), 8},
		{"at its floor", stands(0, 5, 0), 0},
		{"opening", stands(0, 2, 1), 12},
		{"opened", stands(0, 2, 2), 12},
		{"closing", stands(0, 2, 3), 12},
		{"opened at its floor", stands(0, 5, 2), 4},
		{"on its way there", rides(0, 2, 5), 8},
		{"on its way elsewhere", rides(0, 2, 0), 18},
		{"on its way, with its door open", api.Frame{Kind: api.FrameReport, A: 2, C: api.BitMoves | 2}, 18},
		{"on its way to where it is", rides(0, 2, 2), 8},
		{"shut, with another target", api.Frame{Kind: api.FrameReport, A: 2, B: 4}, 8},
		{"opened, with another target", api.Frame{Kind: api.FrameReport, A: 2, B: 4, C: 2}, 12},
		{"overloaded", stands(0, 2, api.BitOver), 8},
	} {
		b := newBench(t, house(6, 1))
		b.tick(c.f, in(0, 5))
		if c.name == "opened at its floor" {
			b.noted(c.name, api.Note{Kind: api.NoteServe, N: 5}, api.Note{Kind: api.NoteBest})
			b.g = start(t, house(6, 1))
			b.tick(c.f, down(5)) // its side is neither
		}
		b.noted(c.name, api.Note{Kind: api.NoteBest, N: c.cost})
	}
}

// TestWants: P15.1; which cars a want has, by which car goes for it; what no car may serve is lost, and isn't in the plan.
func TestWants(t *testing.T) {
	b := newBench(t, house(6, 3))
	b.told("overloaded: the next one's", b.tick(stands(0, 2, api.BitOver), stands(1, 5, 0), stands(2, 0, api.BitFault), up(2), in(0, 1), in(2, 0)), goTo(1), goTo(2), nothing)
	b.noted("costs", api.Note{Kind: api.NoteBest, N: 4 + 8}, api.Note{Kind: api.NoteLost, N: 1})
	b.told("a fault", b.tick(stands(0, 2, api.BitFault), stands(1, 5, 0), stands(2, 0, 0)), nothing, goTo(2), open)
	b.noted("a fault", api.Note{Kind: api.NoteBest, N: 8 + 0}, api.Note{Kind: api.NoteLost, N: 1})
	b.told("out", b.tick(turn(api.SwitchOut, 1, 2), stands(0, 2, 0), stands(1, 5, api.BitOver)), open, nothing, nothing)
	b.noted("out", api.Note{Kind: api.NoteBest, N: 0 + 6 + 4}, api.Note{Kind: api.NoteLost, N: 1})
}

// TestBudget: P15.1 and P15.2; NotePlan, where the budget doesn't let a search be complete, and as many nodes as that.
func TestBudget(t *testing.T) {
	for _, c := range []struct {
		budget, nodes int
		want          api.Note
		told          api.Command
	}{
		// First to 5 costs 8 and 24; first to 1, which is nearer, 4 and 20. The second of these is the fourth node.
		{1, 1, api.Note{Kind: api.NotePlan, N: 8 + 8 + 6 + 10}, goTo(5)},
		{1000000, 4, api.Note{Kind: api.NoteBest, N: 4 + 4 + 6 + 10}, goTo(1)},
		{5, 4, api.Note{Kind: api.NoteBest, N: 4 + 4 + 6 + 10}, goTo(1)},
		{4, 4, api.Note{Kind: api.NoteBest, N: 4 + 4 + 6 + 10}, goTo(1)},
		{3, 3, api.Note{Kind: api.NotePlan, N: 8 + 8 + 6 + 10}, goTo(5)},
	} {
		s := house(6, 1)
		s.Budget = c.budget
		b := newBench(t, s)
		b.told("the first call", b.tick(stands(0, 2, 0), down(5), up(1)), c.told)
		b.noted("the plan", c.want)
		if got := b.g.Nodes(); got != c.nodes {
			t.Errorf("budget %d: %d nodes, not %d", c.budget, got, c.nodes)
		}
	}
}

// TestGoalOfPlan: P15.1; the first call of the list that waits still, and that the car may serve, between two plans.
func TestGoalOfPlan(t *testing.T) {
	s := house(9, 2)
	s.Period = 100
	b := newBench(t, s)
	b.told("the nearest", b.tick(stands(0, 2, 0), stands(1, 2, api.BitOver), up(3), in(0, 4), down(8)), goTo(3), nothing)
	b.told("a call that the plan doesn't know", b.tick(stands(0, 2, 0), up(2), in(1, 6)), goTo(3), nothing)
	b.told("overloaded: the next one that it may", b.tick(stands(0, 2, api.BitOver)), goTo(4), nothing)
	b.told("no longer", b.tick(stands(0, 3, 0)), open, nothing)
	b.told("it opens", b.tick(stands(0, 3, 2)), nothing, nothing)
	b.noted("it opens", api.Note{Kind: api.NoteServe, N: 3})
	b.told("the next one", b.tick(stands(0, 3, 0)), goTo(4), nothing)
	b.told("the first one waits again", b.tick(stands(0, 3, 0), up(3)), open, nothing)
	b.told("the car 1 may serve it, but has no list", b.tick(stands(1, 3, 0), stands(0, 3, api.BitFault)), nothing, nothing)
	b.tick(stands(0, 3, 2))
	b.tick(stands(0, 4, 2))
	b.told("the last one", b.tick(stands(0, 4, 0)), goTo(8), nothing)
	b.tick(stands(0, 8, 0))
	b.told("no goal", b.tick(stands(0, 8, 2)), nothing, nothing)
	b.told("no goal, though calls wait", b.tick(stands(0, 8, 0)), nothing, nothing)
	b.wait("no goal, though calls wait", api.Call{Floor: 2, Car: -1, Age: 13, Up: true}, api.Call{Floor: 6, Car: 1, Age: 13})
}

// TestGoalOldest: P15.1; from the site's Age on the oldest call goes ahead of the plan, in each car that may serve it.
func TestGoalOldest(t *testing.T) {
	s := house(9, 3)
	s.Age, s.Period, s.Silent = 4, 100, 99
	b := newBench(t, s)
	// By the plan the car 1 goes to 8, and the car 0 to 0.
	b.told("the plan", b.tick(stands(0, 1, 0), stands(1, 7, 0), stands(2, 4, api.BitOver), down(8), in(0, 0)), goTo(0), goTo(8), nothing)
	b.told("two ticks", b.tick(up(4), in(2, 4), in(0, 5)), goTo(0), goTo(8), nothing)
	b.told("three ticks", b.tick(), goTo(0), goTo(8), nothing)
	b.told("four ticks: it is old, of two the first", b.tick(), goTo(8), goTo(8), nothing)
	b.told("five ticks: the next ones, of the car 2 alone that in it", b.tick(), goTo(8), goTo(8), open)
	b.told("at its floor", b.tick(stands(1, 8, 0)), goTo(8), open, open)
	b.told("served: the next one", b.tick(stands(1, 8, 2)), goTo(0), nothing, open)
	b.told("and the next one", b.tick(stands(0, 0, 2), stands(1, 8, 0)), nothing, goTo(4), open)
	b.told("and the next one of the car 0", b.tick(stands(0, 0, 0)), goTo(4), goTo(4), open)
	b.tick(stands(1, 4, 0))
	b.tick(stands(1, 4, 2))
	b.told("in it", b.tick(), goTo(5), nothing, open)
}

// TestTold: P15.1; who is told nothing, whatever waits, and in a recall, too.
func TestTold(t *testing.T) {
	for _, recall := range []int{0, 1} {
		for _, c := range []struct {
			name string
			f    api.Frame
			told bool
		}{
			{"idle", stands(0, 2, 0), true},
			{"overloaded", stands(0, 2, api.BitOver), true},
			{"a fault", stands(0, 2, api.BitFault), false},
			{"on its way", rides(0, 2, 5), false},
			{"opening", stands(0, 2, 1), false},
			{"opened", stands(0, 2, 2), false},
			{"closing", stands(0, 2, 3), false},
			{"out of service", turn(api.SwitchOut, 1, 0), false},
		} {
			b := newBench(t, house(6, 1))
			want := []api.Command{goTo(4), goTo(0)}[recall]
			b.told("at first", b.tick(turn(api.SwitchRecall, recall, 0), stands(0, 2, 0), in(0, 4)), want)
			if !c.told {
				want = nothing
			}
			b.told(c.name, b.tick(c.f), want)
		}
	}
}

// TestTwoWays: P15.1; a car with calls both ways on its floor opens for one, and then for the other.
func TestTwoWays(t *testing.T) {
	b := newBench(t, house(6, 1))
	b.told("the first", b.tick(stands(0, 2, 0), up(2), down(2)), open)
	b.tick(stands(0, 2, 2))
	b.wait("the other one", api.Call{Floor: 2, Car: -1, Age: 2})
	b.told("the other one", b.tick(stands(0, 2, 0)), open)
	b.tick(stands(0, 2, 2))
	b.wait("none")
	b.told("none", b.tick(stands(0, 2, 0)), nothing)
}

// TestRecall: P15.1; in a recall all go to the floor 0, and open, and nothing is served; the side is neither, and plans go on.
func TestRecall(t *testing.T) {
	b := newBench(t, house(6, 2))
	b.tick(stands(0, 0, 0), stands(1, 3, 0), up(0), in(1, 3), in(1, 0))
	b.told("a recall", b.tick(turn(api.SwitchRecall, 1, 0), stands(0, 0, 2), stands(1, 3, 2)), nothing, nothing)
	b.noted("nothing is served", api.Note{Kind: api.NoteBest, N: 4 + 4 + 18})
	b.told("to the floor 0", b.tick(stands(0, 0, 0), stands(1, 3, 0)), open, goTo(0))
	b.noted("plans go on", api.Note{Kind: api.NoteBest, N: 14})
	b.told("on its way", b.tick(stands(0, 0, 1), rides(1, 3, 0)), nothing, nothing)
	b.told("there", b.tick(stands(0, 0, 2), stands(1, 0, 0)), nothing, open)
	b.told("again", b.tick(stands(0, 0, 0), stands(1, 0, 0)), open, open)
	if got := b.g.Calls(); len(got) != 3 || !b.g.Recall() {
		t.Errorf("%v", got)
	}
	b.told("no longer", b.tick(turn(api.SwitchRecall, 0, 0), stands(0, 0, 2), stands(1, 0, 2)), nothing, nothing)
	b.wait("the calls in the car alone are served", api.Call{Floor: 0, Car: -1, Age: 7, Up: true}, api.Call{Floor: 3, Car: 1, Age: 7})
	b.told("the plan again", b.tick(stands(0, 0, 0), stands(1, 0, 0)), open, goTo(3))
}

// TestRecallAge: P15.1; in a recall a call that is old is no goal either.
func TestRecallAge(t *testing.T) {
	s := house(6, 1)
	s.Age = 1
	b := newBench(t, s)
	b.told("old", b.tick(stands(0, 2, 0), up(4)), goTo(4))
	b.told("a recall", b.tick(turn(api.SwitchRecall, 1, 0), stands(0, 2, 0)), goTo(0))
	b.told("none any more", b.tick(turn(api.SwitchRecall, 0, 0), stands(0, 2, 0)), goTo(4))
}
