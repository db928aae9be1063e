package world_test

import (
	"slices"
	"testing"

	"paternoster/api"
	"paternoster/car"
	"paternoster/frame"
)

// recalls gives a world in whose first tick a recall was turned on, in its second one off, and in its third one nothing.
func recalls(t *testing.T) bench {
	t.Helper()
	b := start(t, house(1))
	b.does(turn(api.SwitchRecall, 0, true))
	b.ticks(1)
	b.does(turn(api.SwitchRecall, 0, false))
	b.ticks(2)
	return b
}

// TestAgain: P17.1; of which tick it comes again, in which order, and that it does so once.
func TestAgain(t *testing.T) {
	onSwitch, offSwitch := turn(api.SwitchRecall, 0, true), turn(api.SwitchRecall, 0, false)
	of := func(a int) api.Event { return happens(api.EvAgain, a) }
	for _, c := range []struct {
		name string
		list []api.Event
		want bool
	}{
		{"nothing", nil, false},
		{"the last one, which had no switch", []api.Event{of(1)}, false},
		{"the one that was off", []api.Event{of(2)}, false},
		{"the one that was on", []api.Event{of(3)}, true},
		{"on twice", []api.Event{of(3), of(3)}, true},
		{"on, then off", []api.Event{of(3), of(2)}, false},
		{"off, then on", []api.Event{of(2), of(3)}, true},
		{"off, on, nothing", []api.Event{of(2), of(3), of(1)}, true},
		{"ahead of a switch that is turned now", []api.Event{of(3), offSwitch}, false},
		{"ahead of a switch that was turned first", []api.Event{offSwitch, of(3)}, false},
		{"off ahead of on", []api.Event{onSwitch, of(2)}, true},
	} {
		b := recalls(t)
		b.does(c.list...)
		if b.Group().Recall() {
			t.Errorf("%s: it came ahead of the tick", c.name)
		}
		b.ticks(1)
		if got := b.Group().Recall(); got != c.want {
			t.Errorf("%s: %t", c.name, got)
		}
	}
	b := recalls(t)
	b.does(of(3))
	b.ticks(1)
	b.does(offSwitch)
	b.ticks(1)
	b.ticks(1)
	if b.Group().Recall() {
		t.Error("it came again twice")
	}
}

// TestAgainIsNoTicksOwn: P17.1; what comes again doesn't count as that tick's, what was put on the bus beside it does.
func TestAgainIsNoTicksOwn(t *testing.T) {
	b := recalls(t)
	b.does(happens(api.EvAgain, 3), in(0, 4))
	b.ticks(1)
	b.does(turn(api.SwitchRecall, 0, false))
	b.ticks(1)
	b.does(happens(api.EvAgain, 2)) // the tick in which the recall came again
	b.ticks(1)
	if b.Group().Recall() {
		t.Error("it counts as that tick's")
	}
	b.ticks(30)
	b.wait("it is served")
	b.stand("it is idle", car.At(4))
	b.does(happens(api.EvAgain, b.Now()-3)) // the same one: it is the fourth
	b.ticks(1)
	b.wait("what was pressed beside it", api.Call{Floor: 4, Car: 0, Age: 1})
}

// TestAgainIsOfTheEvent: P17.1; it is counted from the event on, and what waits on the bus isn't a tick's yet.
func TestAgainIsOfTheEvent(t *testing.T) {
	b := start(t, house(1))
	b.does(in(0, 3))
	b.ticks(1)
	b.does(in(0, 5), happens(api.EvAgain, 1))
	if got := b.Do(happens(api.EvAgain, 2)); got != api.ErrRange {
		t.Errorf("what waits on the bus counts as a tick: %d", got)
	}
	b.ticks(1)
	b.wait("both", api.Call{Floor: 3, Car: 0, Age: 2}, api.Call{Floor: 5, Car: 0, Age: 1})
}

// TestAgainReports: P17.1; a report that comes again is old, as many as come; one that was lost doesn't come again.
func TestAgainReports(t *testing.T) {
	b := start(t, house(3))
	b.does(happens(api.EvLose, 1))
	b.ticks(1)
	b.ticks(1)
	b.does(happens(api.EvAgain, 2), happens(api.EvAgain, 1))
	b.ticks(1)
	var want []api.Note
	for _, n := range []int{0, 2, 0, 1, 2} {
		want = append(want, api.Note{Kind: api.NoteOld, N: n})
	}
	if got := b.Group().Notes(); !slices.Equal(got, append(want, api.Note{Kind: api.NoteBest})) {
		t.Errorf("noted %v", got)
	}
	// a report that comes again isn't one of this tick
	b.does(happens(api.EvAgain, 1), happens(api.EvLose, 0))
	b.ticks(1)
	if b.Group().Seen(0).Live || !b.Group().Seen(1).Live {
		t.Errorf("%v, %v", b.Group().Seen(0), b.Group().Seen(1))
	}
}

// TestReportsAheadOfEvents: P17.1; cars report ahead of what events put on the bus, in their order, which the notes tell of.
func TestReportsAheadOfEvents(t *testing.T) {
	b := start(t, house(2))
	b.does(up(9))
	b.ticks(1)
	b.does(turn(9, 0, true), happens(api.EvAgain, 1), up(9), up(9), turn(9, 0, true))
	b.ticks(1)
	wrong := func(kind int) api.Note { return api.Note{Kind: api.NoteWrong, N: kind} }
	want := []api.Note{
		{Kind: api.NoteOld, N: 0}, {Kind: api.NoteOld, N: 1}, wrong(api.FramePress),
		wrong(api.FrameSwitch), wrong(api.FramePress), wrong(api.FramePress), wrong(api.FrameSwitch),
		{Kind: api.NoteBest},
	}
	if got := b.Group().Notes(); !slices.Equal(got, want) {
		t.Errorf("noted %v, not %v", got, want)
	}
}

// TestNumbers: P17.1; reports are numbered from 1 on, which frames tell that somebody else hands to the group.
func TestNumbers(t *testing.T) {
	for _, c := range []struct{ ticks, seq, want int }{
		{1, 1, api.NoteOld}, {1, 2, api.NoteBest}, {5, 5, api.NoteOld}, {5, 6, api.NoteBest},
	} {
		b := start(t, house(1))
		b.ticks(c.ticks)
		report, _ := frame.Encode(api.Frame{Kind: api.FrameReport, Seq: c.seq})
		b.Group().Tick(report)
		if got := b.Group().Notes(); len(got) == 0 || got[0].Kind != c.want {
			t.Errorf("%d behind %d ticks: noted %v", c.seq, c.ticks, got)
		}
	}
}

// TestRound: P17.1; reports are numbered from 1 on, round and round: each is newer than the last one, for more than a round.
func TestRound(t *testing.T) {
	b := start(t, house(2))
	for range 65536 + 40 {
		b.ticks(1)
		if !b.Group().Seen(0).Live || !b.Group().Seen(1).Live {
			t.Fatalf("tick %d: not live", b.Now())
		}
	}
	for _, a := range []int{1, 40, 32769, b.Now()} {
		b.does(happens(api.EvAgain, a))
	}
	b.does(in(1, 2))
	b.ticks(1)
	if got := b.Group().Notes(); len(got) != 9 || got[0] != (api.Note{Kind: api.NoteOld, N: 0}) || got[7] != (api.Note{Kind: api.NoteOld, N: 1}) {
		t.Errorf("noted %v", got)
	}
	b.stand("it goes on", car.At(0), rides(0, 2, 4))
}

// TestEachTickHasItsNumber: P17.1; ticks whose reports are lost count, too: behind half a round without one, the next one isn't newer.
func TestEachTickHasItsNumber(t *testing.T) {
	for _, c := range []struct {
		lost int
		live bool
	}{{32766, true}, {32767, false}} {
		b := start(t, house(2))
		b.ticks(1)
		for range c.lost {
			b.does(happens(api.EvLose, 1))
			b.ticks(1)
		}
		b.ticks(1)
		if got := b.Group().Seen(1).Live; got != c.live || !b.Group().Seen(0).Live {
			t.Errorf("%d ticks lost: live %t", c.lost, got)
		}
	}
}
