package group_test

import (
	"math/rand"
	"slices"
	"testing"

	"paternoster/api"
	"paternoster/car"
	"paternoster/group"
	"paternoster/site"
)

// randomSite gives a right site, with few floors and short times, so that much happens.
func randomSite(r *rand.Rand) api.Site {
	return api.Site{
		Floors: 2 + r.Intn(7), Cars: 1 + r.Intn(4),
		Start: r.Intn(3), Step: 1 + r.Intn(2), Stop: r.Intn(3),
		Open: 1 + r.Intn(2), Wait: 1 + r.Intn(3), Close: 1 + r.Intn(2), Nudge: r.Intn(3),
		Age: 1 + r.Intn(60), Silent: 1 + r.Intn(6), Budget: 1 + r.Intn(60), Period: 1 + r.Intn(7),
	}
}

// pair is a group beside the model of one.
type pair struct {
	t     *testing.T
	g     *group.Group
	m     *model
	count map[int]int // of each kind of note
	told  map[api.Command]int
}

func newPair(t *testing.T, s api.Site) *pair {
	t.Helper()
	return &pair{t, start(t, s), newModel(s), map[int]int{}, map[api.Command]int{}}
}

// tick holds a group's tick to the model's.
func (p *pair) tick(in []byte) []api.Command {
	p.t.Helper()
	want, before := p.m.tick(slices.Clone(in)), slices.Clone(in)
	got := p.g.Tick(in)
	if !slices.Equal(in, before) {
		p.t.Fatalf("the bytes were changed")
	}
	if !slices.Equal(got, want) {
		p.t.Fatalf("%+v, tick %d: told %v, not %v", p.m.s, p.m.now, got, want)
	}
	if notes := p.g.Notes(); !slices.Equal(notes, p.m.notes) {
		p.t.Fatalf("%+v, tick %d: noted %v, not %v", p.m.s, p.m.now, notes, p.m.notes)
	}
	if all := p.g.Calls(); !slices.Equal(all, p.m.all()) {
		p.t.Fatalf("%+v, tick %d: %v, not %v", p.m.s, p.m.now, all, p.m.all())
	}
	if p.g.Recall() != p.m.recall || p.g.Nodes() != p.m.nodes || p.g.Nodes() > p.m.s.Budget {
		p.t.Fatalf("%+v, tick %d: %t, %d, not %t, %d", p.m.s, p.m.now, p.g.Recall(), p.g.Nodes(), p.m.recall, p.m.nodes)
	}
	for n, seen := range p.m.seen {
		hallCall, own, others := api.Call{Floor: 1, Car: -1}, api.Call{Floor: 1, Car: n}, api.Call{Floor: 1, Car: n + 1}
		may := [3]bool{p.g.May(n, hallCall), p.g.May(n, own), p.g.May(n, others)}
		if x := p.g.Seen(n); x != seen || may != [3]bool{p.m.may(n, waiting{car: -1}), p.m.may(n, waiting{car: n}), false} {
			p.t.Fatalf("%+v, tick %d, car %d: %+v, %v, not %+v", p.m.s, p.m.now, n, x, may, seen)
		}
	}
	for _, note := range p.m.notes {
		p.count[note.Kind]++
	}
	for _, do := range want {
		p.told[api.Command{Open: do.Open, Go: min(do.Go, 1)}]++
	}
	return got
}

// randomFrame gives a frame of which any number may be wrong.
func randomFrame(r *rand.Rand, s api.Site, seq int) api.Frame {
	f := api.Frame{Kind: 1 + r.Intn(3), Car: r.Intn(s.Cars), Seq: seq}
	switch f.Kind {
	case api.FrameReport:
		f.A, f.B, f.C = r.Intn(s.Floors), r.Intn(s.Floors), []int{0, 0, 0, 1, 2, 2, 3, 4, 8, 16, 24, 32, 228}[r.Intn(13)]
	case api.FramePress:
		f.A, f.B = r.Intn(s.Floors), r.Intn(2)
		if r.Intn(3) > 0 {
			f.Car = 255
		}
	case api.FrameSwitch:
		f.A, f.B, f.C = 1+r.Intn(3), r.Intn(5)/3, r.Intn(s.Floors)
	}
	switch r.Intn(40) {
	case 0:
		f.Car = r.Intn(256)
	case 1:
		f.A = r.Intn(256)
	case 2:
		f.B = r.Intn(256)
	case 3:
		f.C = r.Intn(256)
	case 4:
		f.Seq = r.Intn(65536)
	}
	return f
}

// TestFrames: P15.1 and P15.2, against the model; frames of all kinds, whatever cars would do, with junk between them, and cut anywhere.
func TestFrames(t *testing.T) {
	r := rand.New(rand.NewSource(15))
	count, told := map[int]int{}, map[api.Command]int{}
	for range 150 {
		p := newPair(t, randomSite(r))
		p.count, p.told = count, told
		var stream []byte
		seq := r.Intn(65536)
		for range 80 {
			for range r.Intn(6) {
				seq = (seq + r.Intn(8)) % 65536
				stream = append(stream, encode(t, randomFrame(r, p.m.s, seq))...)
				if r.Intn(12) == 0 {
					stream = append(stream, []byte{165, 1, 2, byte(r.Intn(256))}[r.Intn(4):]...)
				}
			}
			cut := len(stream)
			if r.Intn(4) == 0 && cut > 0 {
				cut = r.Intn(cut)
			}
			p.tick(stream[:cut])
			stream = stream[cut:]
		}
	}
	for _, kind := range []int{api.NoteJunk, api.NoteOld, api.NoteWrong, api.NoteBest, api.NotePlan, api.NoteServe, api.NoteLost} {
		if count[kind] < 50 {
			t.Errorf("too few notes of the kind %d: %v", kind, count)
		}
	}
	if told[api.Command{Open: true, Go: -1}] < 50 || told[api.Command{Go: 0}] < 50 || told[api.Command{Go: 1}] < 50 {
		t.Errorf("too little was told: %v", told)
	}
}

// building is cars that do what they are told, and report it.
type building struct {
	s    api.Site
	cars []api.Car
	over []bool
	seq  int
}

func newBuilding(s api.Site) *building {
	return &building{s, slices.Repeat([]api.Car{car.At(0)}, s.Cars), make([]bool, s.Cars), 0}
}

// report gives the frame of a car's report.
func (b *building) report(n int) api.Frame {
	c := b.cars[n]
	bits := c.Door.Phase
	if c.Ticks > 0 {
		bits |= api.BitMoves
	}
	if c.Fault {
		bits |= api.BitFault
	}
	if b.over[n] {
		bits |= api.BitOver
	}
	return api.Frame{Kind: api.FrameReport, Car: n, Seq: b.seq % 65536, A: c.Floor, B: c.Target, C: bits}
}

// step lets each car do what it is told.
func (b *building) step(told []api.Command) {
	for n, do := range told {
		b.cars[n] = car.Step(b.s, b.cars[n], do, false)
	}
}

// TestRides: P15.1 and P15.2, against the model; cars that do as they are told, some of whose reports are lost, or come again.
func TestRides(t *testing.T) {
	r := rand.New(rand.NewSource(16))
	count, told := map[int]int{}, map[api.Command]int{}
	for range 60 {
		s := randomSite(r)
		b, p := newBuilding(s), newPair(t, s)
		p.count, p.told = count, told
		var last []byte
		for range 300 {
			b.seq++
			var in []byte
			if r.Intn(20) == 0 {
				in = append(in, last...)
			}
			for n := range b.cars {
				if r.Intn(12) > 0 {
					in = append(in, encode(t, b.report(n))...)
				}
				b.cars[n].Fault = r.Intn(50) == 0 || b.cars[n].Fault && r.Intn(5) > 0
				b.over[n] = r.Intn(30) == 0 || b.over[n] && r.Intn(8) > 0
			}
			for range r.Intn(8) / 6 {
				f := randomFrame(r, s, 0)
				if f.Kind == api.FrameSwitch && r.Intn(4) > 0 {
					f.B = 0
				}
				if f.Kind != api.FrameReport {
					in = append(in, encode(t, f)...)
				}
			}
			last = in
			b.step(p.tick(in))
		}
	}
	for _, kind := range []int{api.NoteOld, api.NoteBest, api.NotePlan, api.NoteServe, api.NoteLost} {
		if count[kind] < 50 {
			t.Errorf("too few notes of the kind %d: %v", kind, count)
		}
	}
	if told[api.Command{Open: true, Go: -1}] < 50 || told[api.Command{Go: 0}] < 50 || told[api.Command{Go: 1}] < 50 {
		t.Errorf("too little was told: %v", told)
	}
}

// TestFullHouse: P15.1 and P15.2 at the limits, against the model; 64 floors, eight cars, and more presses than there is room for.
func TestFullHouse(t *testing.T) {
	r := rand.New(rand.NewSource(17))
	s := house(64, 8)
	s.Start, s.Step, s.Stop, s.Age, s.Budget, s.Period = 0, 1, 0, 200, 300, 3
	b, p := newBuilding(s), newPair(t, s)
	for range 300 {
		b.seq++
		var in []byte
		for n := range b.cars {
			in = append(in, encode(t, b.report(n))...)
		}
		for range 40 {
			f := api.Frame{Kind: api.FramePress, Car: r.Intn(8), A: r.Intn(64), B: r.Intn(2)}
			if r.Intn(2) == 0 {
				f.Car = 255
			}
			in = append(in, encode(t, f)...)
		}
		b.step(p.tick(in))
	}
	if p.count[api.NoteFull] < 500 || p.count[api.NoteServe] < 50 || p.count[api.NotePlan] < 50 {
		t.Errorf("too little was noted: %v", p.count)
	}
}

// TestAllServed: the whole of a tick; where nobody is lost, each call is served within the site's Bound, none is lost, and each plan is shown.
func TestAllServed(t *testing.T) {
	r := rand.New(rand.NewSource(18))
	for range 20 {
		s := randomSite(r)
		s.Silent = 2 + r.Intn(4)
		b, g := newBuilding(s), start(t, s)
		pressed := 0
		for now := 0; now < 400 || len(g.Calls()) > 0; now++ {
			b.seq++
			var in []byte
			for n := range b.cars {
				in = append(in, encode(t, b.report(n))...)
			}
			if now < 300 && r.Intn(10) == 0 {
				in = append(in, encode(t, api.Frame{Kind: api.FramePress, Car: 255, A: r.Intn(s.Floors), B: r.Intn(2)})...)
				pressed++
			}
			b.step(g.Tick(in))
			for _, c := range g.Calls() {
				if c.Age > site.Bound(s, 0) {
					t.Fatalf("%+v: %+v still waits", s, c)
				}
			}
			for _, note := range g.Notes() {
				if note.Kind == api.NoteRule || note.Kind == api.NoteLost {
					t.Fatalf("%+v: %v", s, g.Notes())
				}
			}
		}
		if pressed < 5 {
			t.Fatalf("%d pressed", pressed)
		}
	}
}

// TestJunk: P1 of Tick; bytes of all sorts, a few and many at a time, are answered by a command for each car.
func TestJunk(t *testing.T) {
	r := rand.New(rand.NewSource(19))
	p := newPair(t, house(6, 2))
	for n := range 300 {
		in := make([]byte, r.Intn(10+n*n/20))
		for i := range in {
			in[i] = []byte{165, 1, 2, 3, byte(r.Intn(256))}[r.Intn(5)]
		}
		p.tick(in)
	}
	if p.count[api.NoteJunk] < 200 {
		t.Errorf("%v", p.count)
	}
}

// TestSameAgain: P2; the same ticks of two groups, one beside the other, give the same answers, and asking in between changes nothing.
func TestSameAgain(t *testing.T) {
	r := rand.New(rand.NewSource(20))
	for range 20 {
		s := randomSite(r)
		one, other := start(t, s), start(t, s)
		for seq := range 100 {
			var in []byte
			for range r.Intn(5) {
				in = append(in, encode(t, randomFrame(r, s, seq))...)
			}
			a := one.Tick(in)
			one.Notes()
			one.Calls()
			one.Seen(r.Intn(9))
			one.May(r.Intn(9), api.Call{Car: r.Intn(4) - 1})
			if b := other.Tick(in); !slices.Equal(a, b) || !slices.Equal(one.Notes(), other.Notes()) || !slices.Equal(one.Calls(), other.Calls()) {
				t.Fatalf("%v, %v and %v, %v", a, one.Notes(), b, other.Notes())
			}
		}
	}
}
