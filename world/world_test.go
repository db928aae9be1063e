package world_test

import (
	"math"
	"slices"
	"testing"

	"paternoster/api"
	"paternoster/car"
	"paternoster/world"
)

// house gives a right site of so many cars: a way takes 2 ticks, and one for each floor; a door takes 1, 2 and 1; it plans in each tick.
func house(cars int) api.Site {
	return api.Site{Floors: 6, Cars: cars, Start: 1, Step: 1, Stop: 1, Open: 1, Wait: 2, Close: 1, Nudge: 1, Age: 60, Silent: 2, Budget: 100, Period: 1}
}

// bench is a world to which things happen by hand.
type bench struct {
	*testing.T
	*world.World
}

func start(t *testing.T, s api.Site) bench {
	t.Helper()
	w, e := world.New(s)
	if e != api.OK || w == nil {
		t.Fatalf("%+v: %v, %d", s, w, e)
	}
	return bench{t, w}
}

// does lets things happen, each of which is OK.
func (b bench) does(list ...api.Event) {
	b.Helper()
	for _, e := range list {
		if got := b.Do(e); got != api.OK {
			b.Errorf("%+v: %d", e, got)
		}
	}
}

// ticks lets so many ticks pass; in none of them may anything be wrong.
func (b bench) ticks(n int) {
	b.Helper()
	for range n {
		b.does(tick)
		if f := b.Faults(); len(f) != 0 {
			b.Fatalf("tick %d: faults %v", b.Now(), f)
		}
	}
}

// stand asks for the cars.
func (b bench) stand(name string, want ...api.Car) {
	b.Helper()
	if got := b.Cars(); !slices.Equal(got, want) {
		b.Errorf("%s: %+v, not %+v", name, got, want)
	}
}

// wait asks for the calls that wait.
func (b bench) wait(name string, want ...api.Call) {
	b.Helper()
	if got := b.Group().Calls(); !slices.Equal(got, want) {
		b.Errorf("%s: %v wait, not %v", name, got, want)
	}
}

// told asks for what the cars were told.
func (b bench) told(name string, want ...api.Command) {
	b.Helper()
	if got := b.Told(); !slices.Equal(got, want) {
		b.Errorf("%s: told %v, not %v", name, got, want)
	}
}

// noted tells whether a note was noted in the last tick.
func (b bench) noted(n api.Note) bool { return slices.Contains(b.Group().Notes(), n) }

var (
	tick    = api.Event{Kind: api.EvTick}
	nothing = api.Command{Go: -1}
	opens   = api.Command{Open: true, Go: -1}
)

// happens gives what happens to a car, or how long ago it was that comes again.
func happens(kind, a int) api.Event { return api.Event{Kind: kind, A: a} }

// is and isNot give that a car has a fault, or is overloaded, and that it isn't so any more.
func is(kind, a int) api.Event    { return api.Event{Kind: kind, A: a, On: true} }
func isNot(kind, a int) api.Event { return happens(kind, a) }

// turn gives a switch that is turned: which one, of what, and whether it is on.
func turn(which, of int, on bool) api.Event {
	return api.Event{Kind: api.EvSwitch, A: which, B: of, On: on}
}

// up, down and in give the button of a call: in a hall, and in a car.
func up(floor int) api.Event   { return press(api.Call{Floor: floor, Car: -1, Up: true}) }
func down(floor int) api.Event { return press(api.Call{Floor: floor, Car: -1}) }
func in(car, floor int) api.Event {
	return press(api.Call{Floor: floor, Car: car})
}
func press(c api.Call) api.Event { return api.Event{Kind: api.EvPress, Call: c} }

// rides and open give a car on its way, and one that stands with its door open.
func rides(floor, target, ticks int) api.Car {
	return api.Car{Floor: floor, Target: target, Ticks: ticks}
}
func open(floor int, d api.Door) api.Car { return api.Car{Floor: floor, Target: floor, Door: d} }

// TestNew: P17.1; a new world, and ErrArg and nil of a site that isn't right.
func TestNew(t *testing.T) {
	b := start(t, house(3))
	b.stand("at first", car.At(0), car.At(0), car.At(0))
	b.wait("at first")
	b.told("at first")
	if b.Now() != 0 || len(b.Faults()) != 0 || b.Group().Recall() || b.Group().Seen(0) != (api.Seen{}) || len(b.Group().Notes()) != 0 {
		t.Errorf("%d, %v, %v", b.Now(), b.Faults(), b.Group())
	}
	for name, change := range map[string]func(*api.Site){
		"nothing":          func(s *api.Site) { *s = api.Site{} },
		"no car":           func(s *api.Site) { s.Cars = 0 },
		"nine cars":        func(s *api.Site) { s.Cars = 9 },
		"fewer than none":  func(s *api.Site) { s.Cars = math.MinInt },
		"one floor":        func(s *api.Site) { s.Floors = 1 },
		"too many floors":  func(s *api.Site) { s.Floors = 65 },
		"no step":          func(s *api.Site) { s.Step = 0 },
		"no wait":          func(s *api.Site) { s.Wait = 0 },
		"too many nudges":  func(s *api.Site) { s.Nudge = 11 },
		"no period":        func(s *api.Site) { s.Period = 0 },
		"no age":           func(s *api.Site) { s.Age = 0 },
		"too great budget": func(s *api.Site) { s.Budget = math.MaxInt },
	} {
		s := house(2)
		change(&s)
		if w, e := world.New(s); w != nil || e != api.ErrArg {
			t.Errorf("%s: %v, %d", name, w, e)
		}
	}
}

// TestExample: P17.1 and the chapter's example; a tick makes a plan of no calls.
func TestExample(t *testing.T) {
	b := start(t, house(2))
	b.ticks(1)
	if got := b.Group().Notes(); !slices.Equal(got, []api.Note{{Kind: api.NoteBest}}) {
		t.Errorf("noted %v", got)
	}
	b.stand("behind a tick", car.At(0), car.At(0))
	b.told("behind a tick", nothing, nothing)
	if x := b.Group().Seen(1); x != (api.Seen{Live: true}) || b.Now() != 1 {
		t.Errorf("%v, %d", x, b.Now())
	}
}

// TestRide: P17.1; a call from its press on until its car is idle again, tick by tick.
func TestRide(t *testing.T) {
	b := start(t, house(1))
	call := func(age int) api.Call { return api.Call{Floor: 2, Car: -1, Age: age, Up: true} }
	b.does(up(2))
	b.wait("ahead of the tick")
	goes, rests := api.Command{Go: 2}, nothing
	for n, c := range []struct {
		car   api.Car
		told  api.Command
		waits bool
		seen  api.Seen
	}{
		{rides(0, 2, 4), goes, true, api.Seen{Live: true}},
		{rides(0, 2, 3), rests, true, api.Seen{Live: true, Target: 2, Moves: true}},
		{rides(0, 2, 2), rests, true, api.Seen{Live: true, Target: 2, Moves: true}},
		{rides(0, 2, 1), rests, true, api.Seen{Live: true, Target: 2, Moves: true}},
		{car.At(2), rests, true, api.Seen{Live: true, Target: 2, Moves: true}},
		{open(2, api.Door{Phase: api.Opening, Left: 1}), opens, true, api.Seen{Live: true, Floor: 2, Target: 2}},
		{open(2, api.Door{Phase: api.Opened, Left: 2}), rests, true, api.Seen{Live: true, Floor: 2, Target: 2, Phase: 1}},
		{open(2, api.Door{Phase: api.Opened, Left: 1}), rests, false, api.Seen{Live: true, Floor: 2, Target: 2, Phase: 2}},
		{open(2, api.Door{Phase: api.Closing, Left: 1}), rests, false, api.Seen{Live: true, Floor: 2, Target: 2, Phase: 2}},
		{car.At(2), rests, false, api.Seen{Live: true, Floor: 2, Target: 2, Phase: 3}},
		{car.At(2), rests, false, api.Seen{Live: true, Floor: 2, Target: 2}},
	} {
		b.ticks(1)
		b.stand("ride", c.car)
		b.told("ride", c.told)
		if c.waits {
			b.wait("ride", call(n+1))
		} else {
			b.wait("ride")
		}
		if got := b.Group().Seen(0); got != c.seen || b.Now() != n+1 {
			t.Errorf("tick %d of %d: %+v, not %+v", n+1, b.Now(), got, c.seen)
		}
	}
}

// TestErrors: P17.1; each kind of event at the edges of its numbers, and rule 7: behind an error all goes on as if nothing had happened.
func TestErrors(t *testing.T) {
	for _, c := range []struct {
		name string
		e    api.Event
		want api.Errno
	}{
		{"no kind", api.Event{}, api.ErrArg},
		{"a kind behind the last one", api.Event{Kind: 9}, api.ErrArg},
		{"a kind below the first one", api.Event{Kind: -1, On: true}, api.ErrArg},
		{"the least kind", api.Event{Kind: math.MinInt}, api.ErrArg},
		{"the greatest kind", api.Event{Kind: math.MaxInt, A: 1}, api.ErrArg},
		{"a press at a floor below a byte", up(-1), api.ErrArg},
		{"a press at a floor above a byte", up(256), api.ErrArg},
		{"a press at the last floor of a byte", up(255), api.OK},
		{"a press below the hall", in(-2, 1), api.ErrArg},
		{"a press in the last car of a byte", in(254, 1), api.OK},
		{"a press in the hall's own number", in(255, 1), api.OK},
		{"a press above a byte", in(256, 1), api.ErrArg},
		{"a press in the greatest car", in(math.MaxInt, 1), api.ErrArg},
		{"a press whose other numbers tell nothing", api.Event{Kind: api.EvPress, A: -5, B: 900, Call: api.Call{Floor: 1, Car: -1, Age: -7}}, api.OK},
		{"a switch below a byte", turn(-1, 0, true), api.ErrArg},
		{"a switch above a byte", turn(256, 0, true), api.ErrArg},
		{"a switch that there isn't", turn(255, 0, true), api.OK},
		{"a switch of a car below a byte", turn(api.SwitchRecall, -1, true), api.ErrArg},
		{"a switch of a car above a byte", turn(api.SwitchRecall, 256, true), api.ErrArg},
		{"a switch of the last car of a byte", turn(api.SwitchOut, 255, true), api.OK},
		{"a switch whose call tells nothing", api.Event{Kind: api.EvSwitch, A: 2, Call: api.Call{Floor: -1, Car: 999}}, api.OK},
		{"a report lost of a car below", happens(api.EvLose, -1), api.ErrRange},
		{"a report lost of the first car", happens(api.EvLose, 0), api.OK},
		{"a report lost of the last car", happens(api.EvLose, 1), api.OK},
		{"a report lost of a car behind it", happens(api.EvLose, 2), api.ErrRange},
		{"a door blocked of a car below", happens(api.EvBlock, math.MinInt), api.ErrRange},
		{"a door blocked of the last car", happens(api.EvBlock, 1), api.OK},
		{"a door blocked of a car behind it", happens(api.EvBlock, 2), api.ErrRange},
		{"a fault of a car below", is(api.EvFault, -1), api.ErrRange},
		{"a fault of the last car", is(api.EvFault, 1), api.OK},
		{"a fault of a car behind it", is(api.EvFault, 2), api.ErrRange},
		{"no fault of a car behind it", isNot(api.EvFault, 2), api.ErrRange},
		{"overload of a car below", is(api.EvOver, -1), api.ErrRange},
		{"overload of the last car", is(api.EvOver, 1), api.OK},
		{"overload of the greatest car", is(api.EvOver, math.MaxInt), api.ErrRange},
		{"again what was below", happens(api.EvAgain, -1), api.ErrRange},
		{"again what will be", happens(api.EvAgain, 0), api.ErrRange},
		{"again the last tick", happens(api.EvAgain, 1), api.OK},
		{"again the first tick", happens(api.EvAgain, 4), api.OK},
		{"again what was ahead of it", happens(api.EvAgain, 5), api.ErrRange},
		{"again the greatest number", happens(api.EvAgain, math.MaxInt), api.ErrRange},
		{"again the least number", happens(api.EvAgain, math.MinInt), api.ErrRange},
		{"a tick whose numbers tell nothing", api.Event{Kind: api.EvTick, A: -9, B: 999, On: true, Call: api.Call{Floor: -1}}, api.OK},
	} {
		one, other := start(t, house(2)), start(t, house(2))
		for _, b := range []bench{one, other} {
			b.does(up(3), in(1, 5))
			b.ticks(4)
		}
		if got := one.Do(c.e); got != c.want {
			t.Errorf("%s: %d, not %d", c.name, got, c.want)
		}
		if c.want == api.OK {
			continue
		}
		for range 30 {
			one.ticks(1)
			other.ticks(1)
			if one.Now() != other.Now() || !slices.Equal(one.Cars(), other.Cars()) || !slices.Equal(one.Group().Notes(), other.Group().Notes()) {
				t.Fatalf("%s: something has changed: %v, %v", c.name, one.Cars(), one.Group().Notes())
			}
		}
	}
}

// TestAgainAtFirst: P17.1; ahead of the first tick none can come again.
func TestAgainAtFirst(t *testing.T) {
	b := start(t, house(1))
	for _, a := range []int{-1, 0, 1, 2} {
		if got := b.Do(happens(api.EvAgain, a)); got != api.ErrRange {
			t.Errorf("%d: %d", a, got)
		}
	}
}

// TestPress: P17.1; a press comes with the next tick, as the call that was pressed; the group tells which can't be.
func TestPress(t *testing.T) {
	b := start(t, house(2))
	b.does(up(2), down(2), in(1, 4), up(2), press(api.Call{Floor: 3, Car: 0, Up: true}), press(api.Call{Floor: 1, Car: 255, Up: true, Age: 40}))
	b.wait("ahead of the tick")
	b.ticks(1)
	b.wait("all kinds",
		api.Call{Floor: 2, Car: -1, Age: 1, Up: true}, api.Call{Floor: 2, Car: -1, Age: 1}, api.Call{Floor: 4, Car: 1, Age: 1},
		api.Call{Floor: 3, Car: 0, Age: 1}, api.Call{Floor: 1, Car: -1, Age: 1, Up: true})
	for name, e := range map[string]api.Event{
		"a floor behind the last one":        up(6),
		"the last floor of a byte":           down(255),
		"a car behind the last one":          in(2, 1),
		"the last car of a byte":             in(254, 1),
		"no way up":                          up(5),
		"no way down":                        down(0),
		"a switch that there isn't":          turn(4, 0, true),
		"the zeroth switch":                  turn(0, 0, true),
		"a car behind the last one is out":   turn(api.SwitchOut, 2, true),
		"a floor to bar behind the last one": turn(api.SwitchBar, 6, true),
	} {
		b := start(t, house(2))
		b.does(e)
		b.ticks(1)
		kind := api.FramePress
		if e.Kind == api.EvSwitch {
			kind = api.FrameSwitch
		}
		if !b.noted(api.Note{Kind: api.NoteWrong, N: kind}) {
			t.Errorf("%s: noted %v", name, b.Group().Notes())
		}
		b.wait(name)
		b.ticks(1)
		if b.noted(api.Note{Kind: api.NoteWrong, N: kind}) {
			t.Errorf("%s: it came twice", name)
		}
	}
}

// TestSwitch: P17.1; each switch, on and off, of what it is turned.
func TestSwitch(t *testing.T) {
	b := start(t, house(2))
	b.does(turn(api.SwitchRecall, 0, true), turn(api.SwitchOut, 1, true), turn(api.SwitchBar, 4, true))
	b.ticks(1)
	b.does(up(4))
	b.ticks(1)
	if !b.Group().Recall() || b.Group().Seen(0).Out || !b.Group().Seen(1).Out || !b.noted(api.Note{Kind: api.NoteWrong, N: api.FramePress}) {
		t.Errorf("on: %t, %v, %v", b.Group().Recall(), b.Group().Seen(1), b.Group().Notes())
	}
	b.does(turn(api.SwitchRecall, 200, false), turn(api.SwitchOut, 1, false), turn(api.SwitchBar, 4, false))
	b.ticks(1)
	b.does(up(4))
	b.ticks(1)
	if b.Group().Recall() || b.Group().Seen(1).Out {
		t.Errorf("off: %t, %v", b.Group().Recall(), b.Group().Seen(1))
	}
	b.wait("off", api.Call{Floor: 4, Car: -1, Age: 1, Up: true})
	// within a tick they come in the order in which they were turned
	b.does(turn(api.SwitchRecall, 0, true), turn(api.SwitchRecall, 0, false), turn(api.SwitchOut, 0, false), turn(api.SwitchOut, 0, true))
	b.ticks(1)
	if b.Group().Recall() || !b.Group().Seen(0).Out {
		t.Errorf("in order: %t, %v", b.Group().Recall(), b.Group().Seen(0))
	}
}

// TestLose: P17.1; a report is lost of that car alone, and in the next tick alone, however often that is told.
func TestLose(t *testing.T) {
	b := start(t, house(2))
	b.ticks(1)
	b.does(happens(api.EvLose, 1), happens(api.EvLose, 1))
	if !b.Group().Seen(1).Live {
		t.Error("it isn't live ahead of the tick")
	}
	b.ticks(1)
	if !b.Group().Seen(0).Live || b.Group().Seen(1).Live {
		t.Errorf("lost: %v, %v", b.Group().Seen(0), b.Group().Seen(1))
	}
	b.ticks(1)
	if !b.Group().Seen(1).Live {
		t.Error("it is lost for more than a tick")
	}
	// a car that was told to go does so, whether its reports come or not
	b.does(in(1, 3))
	b.ticks(1)
	for range 5 {
		b.does(happens(api.EvLose, 1))
		b.ticks(1)
	}
	b.stand("there", car.At(0), car.At(3))
	if x := b.Group().Seen(1); x != (api.Seen{}) {
		t.Errorf("what is known: %v", x)
	}
	// and is told nothing that it isn't live for
	b.does(happens(api.EvLose, 1))
	b.ticks(1)
	b.stand("still there", car.At(0), car.At(3))
	b.wait("still there", api.Call{Floor: 3, Car: 1, Age: 7})
	b.ticks(1)
	b.told("its report comes", nothing, opens)
}

// TestBlock: P17.1; somebody stands in the door of that car alone, and in the next tick alone.
func TestBlock(t *testing.T) {
	b := start(t, house(2))
	b.does(in(0, 0), in(1, 0), happens(api.EvBlock, 0))
	b.ticks(1)
	b.stand("a shut door", open(0, api.Door{Phase: api.Opening, Left: 1}), open(0, api.Door{Phase: api.Opening, Left: 1}))
	b.ticks(1)
	b.does(happens(api.EvBlock, 0), happens(api.EvBlock, 0))
	b.stand("ahead of the tick", open(0, api.Door{Phase: api.Opened, Left: 2}), open(0, api.Door{Phase: api.Opened, Left: 2}))
	b.ticks(1)
	b.stand("blocked", open(0, api.Door{Phase: api.Opened, Left: 2, Runs: 1, Held: true}), open(0, api.Door{Phase: api.Opened, Left: 1}))
	b.ticks(1)
	b.stand("no longer", open(0, api.Door{Phase: api.Opened, Left: 1, Runs: 1}), open(0, api.Door{Phase: api.Closing, Left: 1}))
	b.does(happens(api.EvBlock, 0), happens(api.EvBlock, 1))
	b.ticks(1)
	b.stand("once too often", open(0, api.Door{Phase: api.Closing, Left: 1, Runs: 1}), open(0, api.Door{Phase: api.Opening, Left: 1, Runs: 1, Held: true}))
}

// TestFault: P17.1; a car has a fault from when it is told on: it begins nothing, and reports it.
func TestFault(t *testing.T) {
	b := start(t, house(2))
	b.ticks(1)
	faulty := car.At(0)
	faulty.Fault = true
	b.does(is(api.EvFault, 1), in(1, 2))
	b.stand("ahead of the tick", car.At(0), faulty)
	b.ticks(3)
	b.stand("it begins nothing", car.At(0), faulty)
	if !b.Group().Seen(1).Fault || b.Group().Seen(0).Fault || !b.noted(api.Note{Kind: api.NoteLost, N: 1}) {
		t.Errorf("%v, %v, %v", b.Group().Seen(0), b.Group().Seen(1), b.Group().Notes())
	}
	b.does(is(api.EvFault, 1), isNot(api.EvFault, 1))
	b.ticks(1)
	b.stand("no longer", car.At(0), rides(0, 2, 4))
	b.does(is(api.EvFault, 1))
	b.ticks(4)
	b.stand("a ride that has begun goes on", car.At(0), api.Car{Floor: 2, Target: 2, Fault: true})
	if b.Group().Seen(1) != (api.Seen{Live: true, Target: 2, Moves: true, Fault: true}) {
		t.Errorf("%v", b.Group().Seen(1))
	}
	// a car whose report is lost isn't known to have one: it is told to open, and doesn't
	s := house(1)
	s.Silent = 3
	b = start(t, s)
	b.ticks(1)
	b.does(is(api.EvFault, 0), happens(api.EvLose, 0), in(0, 0))
	b.ticks(1)
	b.told("not known", opens)
	b.stand("not known", faulty)
}

// TestOver: P17.1; a car is overloaded from when it is told on, and none at first: calls from halls are others'.
func TestOver(t *testing.T) {
	b := start(t, house(2))
	b.does(is(api.EvOver, 0), up(3), in(0, 1))
	b.ticks(1)
	b.told("overloaded", api.Command{Go: 1}, api.Command{Go: 3})
	if !b.Group().Seen(0).Over || b.Group().Seen(1).Over || b.Group().May(0, api.Call{Floor: 3, Car: -1}) {
		t.Errorf("%v, %v", b.Group().Seen(0), b.Group().Seen(1))
	}
	b.does(isNot(api.EvOver, 0))
	b.ticks(1)
	if b.Group().Seen(0).Over || !b.Group().Seen(0).Moves {
		t.Errorf("no longer: %v", b.Group().Seen(0))
	}
}

// TestAnswersAreNew: rule 4; what is answered shares nothing with the world, or with another answer.
func TestAnswersAreNew(t *testing.T) {
	b := start(t, house(2))
	b.does(in(1, 4))
	b.ticks(1)
	b.Cars()[1].Floor = 3
	b.Told()[1].Go = 2
	b.stand("changed by hand", car.At(0), rides(0, 4, 6))
	b.told("changed by hand", nothing, api.Command{Go: 4})
	told, cars := b.Told(), b.Cars()
	b.ticks(1)
	if told[1].Go != 4 || cars[1].Ticks != 6 {
		t.Errorf("an answer has changed: %v, %v", told, cars)
	}
	b.told("another tick", nothing, nothing)
}
