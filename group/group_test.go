package group_test

import (
	"math"
	"slices"
	"testing"

	"paternoster/api"
	"paternoster/frame"
	"paternoster/group"
)

// house gives a right site of so many floors and cars: a way takes 2 ticks, and 2 for each floor; a door takes 4; it plans in each tick.
func house(floors, cars int) api.Site {
	return api.Site{Floors: floors, Cars: cars, Start: 1, Step: 2, Stop: 1, Open: 1, Wait: 2, Close: 1, Nudge: 1, Age: 50, Silent: 3, Budget: 100, Period: 1}
}

// start gives a group of a right site.
func start(t *testing.T, s api.Site) *group.Group {
	t.Helper()
	g, e := group.New(s)
	if e != api.OK || g == nil {
		t.Fatalf("%+v: %v, %d", s, g, e)
	}
	return g
}

// encode gives a frame's bytes.
func encode(t *testing.T, f api.Frame) []byte {
	t.Helper()
	b, e := frame.Encode(f)
	if e != api.OK {
		t.Fatalf("%+v: %d", f, e)
	}
	return b
}

// bench is a group to which frames are handed by hand.
type bench struct {
	t   *testing.T
	g   *group.Group
	seq int
}

func newBench(t *testing.T, s api.Site) *bench {
	t.Helper()
	return &bench{t, start(t, s), 0}
}

// tick lets frames come, numbered by their order; it gives what the cars are told.
func (b *bench) tick(list ...api.Frame) []api.Command {
	b.t.Helper()
	var in []byte
	for _, f := range list {
		b.seq++
		f.Seq = b.seq % 65536
		in = append(in, encode(b.t, f)...)
	}
	return b.g.Tick(in)
}

// told asks for what the cars are told.
func (b *bench) told(name string, got []api.Command, want ...api.Command) {
	b.t.Helper()
	if !slices.Equal(got, want) {
		b.t.Errorf("%s: told %v, not %v", name, got, want)
	}
}

// noted asks for the last tick's notes.
func (b *bench) noted(name string, want ...api.Note) {
	b.t.Helper()
	if got := b.g.Notes(); !slices.Equal(got, want) {
		b.t.Errorf("%s: noted %v, not %v", name, got, want)
	}
}

// wait asks for the calls that wait.
func (b *bench) wait(name string, want ...api.Call) {
	b.t.Helper()
	if got := b.g.Calls(); !slices.Equal(got, want) {
		b.t.Errorf("%s: %v wait, not %v", name, got, want)
	}
}

var (
	nothing = api.Command{Go: -1}
	open    = api.Command{Open: true, Go: -1}
)

func goTo(floor int) api.Command { return api.Command{Go: floor} }

// stands is the report of a car at a floor, with C as told.
func stands(car, floor, bits int) api.Frame {
	return api.Frame{Kind: api.FrameReport, Car: car, A: floor, B: floor, C: bits}
}

// rides is the report of a car on its way.
func rides(car, floor, target int) api.Frame {
	return api.Frame{Kind: api.FrameReport, Car: car, A: floor, B: target, C: api.BitMoves}
}

// up and down are presses in a hall, in is one in a car.
func up(floor int) api.Frame {
	return api.Frame{Kind: api.FramePress, Car: 255, A: floor, B: 1}
}
func down(floor int) api.Frame { return api.Frame{Kind: api.FramePress, Car: 255, A: floor} }
func in(car, floor int) api.Frame {
	return api.Frame{Kind: api.FramePress, Car: car, A: floor}
}

// turn is a switch frame: of a switch, whether it is on, of a car, or a floor.
func turn(which, on, place int) api.Frame {
	return api.Frame{Kind: api.FrameSwitch, Car: place, A: which, B: on, C: place}
}

// TestNew: P15.1; ErrArg and nil of sites that aren't right, at each edge; and what a group is at first, P15.2.
func TestNew(t *testing.T) {
	for name, turn := range map[string]func(*api.Site){
		"nothing":            func(s *api.Site) { *s = api.Site{} },
		"one floor":          func(s *api.Site) { s.Floors = 1 },
		"65 floors":          func(s *api.Site) { s.Floors = 65 },
		"no car":             func(s *api.Site) { s.Cars = 0 },
		"nine cars":          func(s *api.Site) { s.Cars = 9 },
		"fewer than no cars": func(s *api.Site) { s.Cars = math.MinInt },
		"cars without end":   func(s *api.Site) { s.Cars = math.MaxInt },
		"no Step":            func(s *api.Site) { s.Step = 0 },
		"no Age":             func(s *api.Site) { s.Age = 0 },
		"no Silent":          func(s *api.Site) { s.Silent = 0 },
		"no Budget":          func(s *api.Site) { s.Budget = 0 },
		"a Budget too great": func(s *api.Site) { s.Budget = 1000001 },
		"no Period":          func(s *api.Site) { s.Period = 0 },
		"a Period too great": func(s *api.Site) { s.Period = 1001 },
	} {
		s := house(6, 2)
		turn(&s)
		if g, e := group.New(s); g != nil || e != api.ErrArg {
			t.Errorf("%s: %v, %d", name, g, e)
		}
	}
	for _, s := range []api.Site{house(2, 1), house(64, 8)} {
		g := start(t, s)
		if g.Recall() || g.Nodes() != 0 || len(g.Notes()) != 0 || len(g.Calls()) != 0 {
			t.Errorf("%t, %d, %v, %v at first", g.Recall(), g.Nodes(), g.Notes(), g.Calls())
		}
		for car := -1; car <= 8; car++ {
			if x := g.Seen(car); x != (api.Seen{}) || g.May(car, api.Call{Car: -1}) || g.May(car, api.Call{Car: car}) {
				t.Errorf("the car %d at first: %+v", car, x)
			}
		}
		if told := g.Tick(nil); !slices.Equal(told, slices.Repeat([]api.Command{nothing}, s.Cars)) {
			t.Errorf("told %v", told)
		}
		if g.Nodes() != 1 || !slices.Equal(g.Notes(), []api.Note{{Kind: api.NoteBest, N: 0}}) {
			t.Errorf("%d, %v behind a tick without bytes", g.Nodes(), g.Notes())
		}
	}
}

// TestExample: the chapter's example.
func TestExample(t *testing.T) {
	b := newBench(t, house(6, 1))
	b.told("the car at 2", b.tick(stands(0, 2, 0), up(2)), open)
	b.wait("the call", api.Call{Floor: 2, Car: -1, Age: 1, Up: true})
}

// TestReport: P15.1, FrameReport; what is known by each bit, and which reports are wrong.
func TestReport(t *testing.T) {
	for _, c := range []struct {
		name string
		f    api.Frame
		want api.Seen
	}{
		{"at the floor 0", stands(1, 0, 0), api.Seen{Live: true}},
		{"at the top", stands(1, 5, 0), api.Seen{Live: true, Floor: 5, Target: 5}},
		{"opening", stands(1, 2, 1), api.Seen{Live: true, Floor: 2, Target: 2, Phase: api.Opening}},
		{"opened", stands(1, 2, 2), api.Seen{Live: true, Floor: 2, Target: 2, Phase: api.Opened}},
		{"closing", stands(1, 2, 3), api.Seen{Live: true, Floor: 2, Target: 2, Phase: api.Closing}},
		{"on its way", rides(1, 2, 5), api.Seen{Live: true, Floor: 2, Target: 5, Moves: true}},
		{"a fault", stands(1, 2, 8), api.Seen{Live: true, Floor: 2, Target: 2, Fault: true}},
		{"overloaded", stands(1, 2, 16), api.Seen{Live: true, Floor: 2, Target: 2, Over: true}},
		{"all bits", stands(1, 2, 255), api.Seen{Live: true, Floor: 2, Target: 2, Phase: api.Closing, Moves: true, Fault: true, Over: true}},
		{"bits that tell nothing", stands(1, 2, 224), api.Seen{Live: true, Floor: 2, Target: 2}},
	} {
		b := newBench(t, house(6, 2))
		b.tick(stands(1, 3, 31), turn(api.SwitchOut, 1, 0))
		b.tick(c.f)
		b.noted(c.name, api.Note{Kind: api.NoteBest})
		if got := b.g.Seen(1); got != c.want {
			t.Errorf("%s: %+v, not %+v", c.name, got, c.want)
		}
		if got := b.g.Seen(0); got != (api.Seen{Out: true}) {
			t.Errorf("%s: the other car: %+v", c.name, got)
		}
	}
	for _, f := range []api.Frame{
		stands(2, 0, 0), stands(255, 0, 0), stands(1, 6, 0), stands(1, 255, 0), rides(1, 6, 0), rides(1, 0, 6), rides(1, 0, 255),
	} {
		b := newBench(t, house(6, 2))
		b.tick(stands(1, 3, 0))
		b.tick(f)
		b.noted("a wrong report", api.Note{Kind: api.NoteWrong, N: api.FrameReport}, api.Note{Kind: api.NoteBest})
		if got := b.g.Seen(1); got != (api.Seen{Live: true, Floor: 3, Target: 3}) {
			t.Errorf("%+v: %+v", f, got)
		}
		// Its number wasn't taken: one that is less than it is still newer.
		b.seq -= 1
		b.tick(stands(1, 4, 0))
		b.noted("behind a wrong report", api.Note{Kind: api.NoteBest})
	}
}

// TestOldReport: P15.1; NoteOld, with the car; each car has a link of its own, and the last report of a tick is what is known.
func TestOldReport(t *testing.T) {
	b := newBench(t, house(6, 3))
	sent := func(car, seq, floor int) []byte {
		return encode(t, api.Frame{Kind: api.FrameReport, Car: car, Seq: seq, A: floor, B: floor})
	}
	for _, c := range []struct {
		name     string
		car, seq int
		old      bool
	}{
		{"the first one", 2, 65535, false},
		{"it again", 2, 65535, true},
		{"round", 2, 0, false},
		{"the one ahead of it", 2, 65535, true},
		{"another car's first one", 1, 65535, false},
		{"as far as it may be", 2, 32767, false},
		{"too far", 2, 65535, true},
		{"far again", 2, 65534, false},
	} {
		b.g.Tick(sent(c.car, c.seq, 1))
		want := []api.Note{{Kind: api.NoteBest}}
		if c.old {
			want = []api.Note{{Kind: api.NoteOld, N: c.car}, {Kind: api.NoteBest}}
		}
		b.noted(c.name, want...)
	}
	b.g.Tick(slices.Concat(sent(0, 7, 1), sent(0, 9, 2), sent(0, 8, 3), sent(0, 10, 4), sent(0, 10, 5)))
	b.noted("five of them", api.Note{Kind: api.NoteOld, N: 0}, api.Note{Kind: api.NoteOld, N: 0}, api.Note{Kind: api.NoteBest})
	if x := b.g.Seen(0); x.Floor != 4 {
		t.Errorf("%+v", x)
	}
}

// TestPress: P15.1, FramePress; whose call it is, which way it goes, and which presses are wrong.
func TestPress(t *testing.T) {
	b := newBench(t, house(6, 2))
	b.tick(up(0), up(4), down(5), down(1), in(0, 0), in(1, 5), api.Frame{Kind: api.FramePress, Car: 255, A: 2, B: 2, C: 77}, api.Frame{Kind: api.FramePress, Car: 1, A: 3, B: 1, C: 77}, up(4))
	b.wait("right ones",
		api.Call{Floor: 0, Car: -1, Age: 1, Up: true}, api.Call{Floor: 4, Car: -1, Age: 1, Up: true}, api.Call{Floor: 5, Car: -1, Age: 1}, api.Call{Floor: 1, Car: -1, Age: 1},
		api.Call{Floor: 0, Car: 0, Age: 1}, api.Call{Floor: 5, Car: 1, Age: 1}, api.Call{Floor: 2, Car: -1, Age: 1}, api.Call{Floor: 3, Car: 1, Age: 1})
	b.noted("right ones", api.Note{Kind: api.NoteBest}, api.Note{Kind: api.NoteLost, N: 8})

	wrong := api.Note{Kind: api.NoteWrong, N: api.FramePress}
	b = newBench(t, house(6, 2))
	b.tick(up(5), down(0), up(6), down(255), in(2, 1), in(254, 1), in(0, 6))
	b.noted("wrong ones", wrong, wrong, wrong, wrong, wrong, wrong, wrong, api.Note{Kind: api.NoteBest})
	b.wait("wrong ones")

	b.tick(turn(api.SwitchBar, 1, 3), up(3), in(1, 3), up(2))
	b.noted("a barred floor", wrong, wrong, api.Note{Kind: api.NoteBest}, api.Note{Kind: api.NoteLost, N: 1})
	b.tick(up(3), turn(api.SwitchBar, 0, 3), up(3))
	b.noted("no longer barred", wrong, api.Note{Kind: api.NoteBest}, api.Note{Kind: api.NoteLost, N: 2})
}

// TestPressFull: P15.1; NoteFull, with the floor, and that only what isn't alike is refused.
func TestPressFull(t *testing.T) {
	b := newBench(t, house(64, 3))
	var list []api.Frame
	for floor := range 64 {
		list = append(list, in(0, floor), in(1, floor))
	}
	b.tick(list...)
	b.noted("128", api.Note{Kind: api.NoteBest}, api.Note{Kind: api.NoteLost, N: 128})
	b.tick(in(2, 63), in(1, 63), up(17), down(0), in(3, 1))
	wrong := api.Note{Kind: api.NoteWrong, N: api.FramePress}
	b.noted("more", api.Note{Kind: api.NoteFull, N: 63}, api.Note{Kind: api.NoteFull, N: 17}, wrong, wrong, api.Note{Kind: api.NoteBest}, api.Note{Kind: api.NoteLost, N: 128})
	if got := b.g.Calls(); len(got) != 128 || got[127] != (api.Call{Floor: 63, Car: 1, Age: 2}) {
		t.Errorf("%d calls", len(got))
	}
}

// TestSwitch: P15.1, FrameSwitch; each one on and off, B's other numbers, and what is wrong: by the switch alone.
func TestSwitch(t *testing.T) {
	b := newBench(t, house(6, 2))
	wrong, best := api.Note{Kind: api.NoteWrong, N: api.FrameSwitch}, api.Note{Kind: api.NoteBest}
	for _, c := range []struct {
		name   string
		f      api.Frame
		wrong  bool
		recall bool
		out    [2]bool
	}{
		{"no switch", turn(0, 1, 1), true, false, [2]bool{}},
		{"another one", turn(4, 1, 1), true, false, [2]bool{}},
		{"the last one there could be", turn(255, 1, 1), true, false, [2]bool{}},
		{"a recall", turn(api.SwitchRecall, 1, 0), false, true, [2]bool{}},
		{"none", turn(api.SwitchRecall, 0, 0), false, false, [2]bool{}},
		{"a recall, of a car and a floor that there aren't", turn(api.SwitchRecall, 1, 255), false, true, [2]bool{}},
		{"a recall again", turn(api.SwitchRecall, 1, 255), false, true, [2]bool{}},
		{"none, by another number", turn(api.SwitchRecall, 2, 255), false, false, [2]bool{}},
		{"a car out", turn(api.SwitchOut, 1, 1), false, false, [2]bool{false, true}},
		{"the other one, too, at a floor that there isn't", api.Frame{Kind: api.FrameSwitch, A: api.SwitchOut, B: 1, C: 255}, false, false, [2]bool{true, true}},
		{"in again", turn(api.SwitchOut, 0, 1), false, false, [2]bool{true, false}},
		{"in again, by another number", turn(api.SwitchOut, 255, 0), false, false, [2]bool{}},
		{"a car that there isn't", turn(api.SwitchOut, 1, 2), true, false, [2]bool{}},
		{"no car", turn(api.SwitchOut, 1, 255), true, false, [2]bool{}},
		{"a floor barred, of a car that there isn't", turn(api.SwitchBar, 1, 5), false, false, [2]bool{}},
		{"a floor that there isn't", turn(api.SwitchBar, 1, 6), true, false, [2]bool{}},
		{"a floor that there isn't, no longer", turn(api.SwitchBar, 0, 255), true, false, [2]bool{}},
		{"the floor is C", api.Frame{Kind: api.FrameSwitch, Car: 0, A: api.SwitchBar, B: 1, C: 6}, true, false, [2]bool{}},
	} {
		b.tick(c.f)
		if c.wrong {
			b.noted(c.name, wrong, best)
		} else {
			b.noted(c.name, best)
		}
		if out := [2]bool{b.g.Seen(0).Out, b.g.Seen(1).Out}; b.g.Recall() != c.recall || out != c.out {
			t.Errorf("%s: %t, %v", c.name, b.g.Recall(), out)
		}
	}
	b.tick(down(5), turn(api.SwitchBar, 2, 5), down(5))
	b.noted("the barred floor, and no longer, by another number", api.Note{Kind: api.NoteWrong, N: api.FramePress}, best, api.Note{Kind: api.NoteLost, N: 1})
}

// TestStream: P15.1; frames that come in pieces, over ticks, and what stands between them: NoteJunk, with its number, ahead of all.
func TestStream(t *testing.T) {
	b := newBench(t, house(6, 1))
	whole := slices.Concat(encode(t, stands(7, 0, 0)), []byte{1, 2, 3}, encode(t, up(1)))
	b.g.Tick(whole[:4])
	b.noted("a piece", api.Note{Kind: api.NoteBest})
	b.g.Tick(whole[4:18])
	b.noted("the rest, and junk that may yet be a frame", api.Note{Kind: api.NoteWrong, N: api.FrameReport}, api.Note{Kind: api.NoteBest})
	b.g.Tick(whole[18:])
	b.noted("the other one", api.Note{Kind: api.NoteJunk, N: 3}, api.Note{Kind: api.NoteBest}, api.Note{Kind: api.NoteLost, N: 1})
	b.g.Tick(slices.Concat(encode(t, stands(7, 0, 0)), make([]byte, 30)))
	b.noted("junk behind", api.Note{Kind: api.NoteJunk, N: 21}, api.Note{Kind: api.NoteWrong, N: api.FrameReport}, api.Note{Kind: api.NoteBest}, api.Note{Kind: api.NoteLost, N: 1})
}

// TestLive: P15.1 and P15.2; for how long a car is live, and that it is told nothing, and may serve nothing, when it isn't.
func TestLive(t *testing.T) {
	for _, silent := range []int{1, 2, 3, 1000000} {
		s := house(6, 1)
		s.Silent = silent
		b := newBench(t, s)
		got := b.tick(stands(0, 2, 0), up(4))
		for now := 1; now <= 5; now++ {
			want, live := nothing, now < silent
			if live {
				want = goTo(4)
			}
			b.told("behind ticks", got, want)
			if b.g.Seen(0).Live != live || b.g.May(0, api.Call{Car: -1}) != live || b.g.May(0, api.Call{}) != live {
				t.Errorf("Silent %d, behind %d ticks: %+v", silent, now, b.g.Seen(0))
			}
			if live {
				b.noted("live", api.Note{Kind: api.NoteBest, N: 6})
			} else {
				b.noted("not live", api.Note{Kind: api.NoteBest}, api.Note{Kind: api.NoteLost, N: 1})
			}
			got = b.tick()
		}
	}
}

// TestMay: P15.2; of each thing that keeps a car from a call, and arguments out of all bounds.
func TestMay(t *testing.T) {
	for _, c := range []struct {
		name     string
		bits     int
		out      int
		hall, in bool
	}{
		{"all well", 0, 0, true, true},
		{"on its way, with its door open", 6, 0, true, true},
		{"out of service", 0, 1, false, false},
		{"a fault", 8, 0, false, false},
		{"overloaded", 16, 0, false, true},
		{"a fault, and overloaded", 24, 0, false, false},
		{"overloaded, and out of service", 16, 1, false, false},
	} {
		b := newBench(t, house(6, 3))
		b.tick(stands(1, 2, c.bits), turn(api.SwitchOut, c.out, 1))
		for _, call := range []api.Call{{}, {Floor: 5, Up: true}, {Floor: math.MinInt, Age: math.MinInt}, {Floor: math.MaxInt, Age: math.MaxInt, Up: true}} {
			for where, want := range map[int]bool{-1: c.hall, 1: c.in, 0: false, 2: false, 3: false, 255: false, -2: false, math.MinInt: false, math.MaxInt: false} {
				call.Car = where
				if got := b.g.May(1, call); got != want {
					t.Errorf("%s: %+v: %t", c.name, call, got)
				}
			}
			for _, car := range []int{-1, 0, 2, 3, 255, math.MinInt, math.MaxInt} {
				call.Car = car
				if b.g.May(car, call) || b.g.May(car, api.Call{Car: -1}) {
					t.Errorf("%s: the car %d may", c.name, car)
				}
			}
		}
	}
	g := start(t, house(6, 2))
	for _, car := range []int{-1, 2, 8, 64, math.MinInt, math.MaxInt} {
		if x := g.Seen(car); x != (api.Seen{}) {
			t.Errorf("the car %d: %+v", car, x)
		}
	}
}

// TestOwn: rule 4; who writes into an answer changes nothing, and later ticks don't change it.
func TestOwn(t *testing.T) {
	b := newBench(t, house(6, 2))
	bytes := encode(t, api.Frame{Kind: api.FramePress, Car: 255, A: 3, B: 1})
	half := bytes[:6:6]
	b.g.Tick(half)
	clear(half)
	b.g.Tick(encode(t, api.Frame{Kind: api.FramePress, Car: 255, A: 3, B: 1})[6:])
	b.wait("a frame in two pieces", api.Call{Floor: 3, Car: -1, Age: 1, Up: true})

	told := b.tick(stands(0, 3, 0), stands(1, 0, 0), in(1, 4))
	notes, all := b.g.Notes(), b.g.Calls()
	keptTold, keptNotes, keptCalls := slices.Clone(told), slices.Clone(notes), slices.Clone(all)
	again := b.tick(stands(0, 3, 0), stands(1, 0, 0))
	if !slices.Equal(told, keptTold) || !slices.Equal(notes, keptNotes) || !slices.Equal(all, keptCalls) {
		t.Errorf("%v, %v, %v were changed by a tick", told, notes, all)
	}
	for _, list := range [][]api.Command{told, again} {
		for i := range list {
			list[i] = api.Command{Open: true, Go: 99}
		}
	}
	notes, all = b.g.Notes(), b.g.Calls()
	for i := range notes {
		notes[i] = api.Note{Kind: 99}
	}
	for i := range all {
		all[i] = api.Call{Floor: 99}
	}
	b.noted("written over", api.Note{Kind: api.NoteBest, N: 10})
	b.wait("written over", api.Call{Floor: 3, Car: -1, Age: 3, Up: true}, api.Call{Floor: 4, Car: 1, Age: 2})
	b.told("written over", b.tick(stands(0, 3, 0), stands(1, 0, 0)), open, goTo(4))
}
