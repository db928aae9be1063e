package world_test

import (
	"slices"
	"testing"

	"paternoster/api"
	"paternoster/car"
	"paternoster/frame"
	"paternoster/group"
	"paternoster/safe"
)

// model is a building by the chapter's words, one by one; its group is one of its own.
type model struct {
	s             api.Site
	g             *group.Group
	cars          []api.Car
	over          []bool
	lost, blocked map[int]bool
	pressed       []api.Frame   // for the next tick
	again         [][]api.Frame // for the next tick
	past          [][]api.Frame
	told          []api.Command
	faults        []int
}

func newModel(s api.Site) *model {
	g, _ := group.New(s)
	return &model{s: s, g: g, cars: make([]api.Car, s.Cars), over: make([]bool, s.Cars), lost: map[int]bool{}, blocked: map[int]bool{}}
}

// do lets something happen.
func (m *model) do(e api.Event) api.Errno {
	there := e.A >= 0 && e.A < len(m.cars)
	switch {
	case e.Kind == api.EvPress:
		n, b := e.Call.Car, 0
		if n == -1 {
			n = 255
		}
		if e.Call.Up {
			b = 1
		}
		return m.put(api.Frame{Kind: 2, Car: n, A: e.Call.Floor, B: b})
	case e.Kind == api.EvSwitch && e.On:
		return m.put(api.Frame{Kind: 3, Car: e.B, A: e.A, B: 1, C: e.B})
	case e.Kind == api.EvSwitch:
		return m.put(api.Frame{Kind: 3, Car: e.B, A: e.A, C: e.B})
	case e.Kind == api.EvAgain:
		if e.A < 1 || e.A > len(m.past) {
			return api.ErrRange
		}
		m.again = append(m.again, m.past[len(m.past)-e.A])
	case e.Kind == api.EvTick:
		m.tick()
	case e.Kind < api.EvPress || e.Kind > api.EvTick:
		return api.ErrArg
	case !there:
		return api.ErrRange
	case e.Kind == api.EvLose:
		m.lost[e.A] = true
	case e.Kind == api.EvBlock:
		m.blocked[e.A] = true
	case e.Kind == api.EvFault:
		m.cars[e.A].Fault = e.On
	case e.Kind == api.EvOver:
		m.over[e.A] = e.On
	}
	return api.OK
}

// put puts a frame on the bus.
func (m *model) put(f api.Frame) api.Errno {
	for _, n := range []int{f.Car, f.A, f.B, f.C} {
		if n < 0 || n > 255 {
			return api.ErrArg
		}
	}
	m.pressed = append(m.pressed, f)
	return api.OK
}

// report gives what a car tells.
func (m *model) report(n int) api.Frame {
	c := m.cars[n]
	bits := c.Door.Phase
	if c.Ticks != 0 {
		bits += 4
	}
	if c.Fault {
		bits += 8
	}
	if m.over[n] {
		bits += 16
	}
	return api.Frame{Kind: 1, Car: n, Seq: (len(m.past) + 1) & 65535, A: c.Floor, B: c.Target, C: bits}
}

// tick lets a tick pass.
func (m *model) tick() {
	var own []api.Frame
	for n := range m.cars {
		if !m.lost[n] {
			own = append(own, m.report(n))
		}
	}
	own = append(own, m.pressed...)
	var in []byte
	for _, f := range append(slices.Concat(m.again...), own...) {
		b, _ := frame.Encode(f)
		in = append(in, b...)
	}
	cars, waited := slices.Clone(m.cars), m.g.Calls()
	m.told = m.g.Tick(in)
	for n, c := range cars {
		m.cars[n] = car.Step(m.s, c, m.told[n], m.blocked[n])
	}
	m.faults = safe.Tick(m.s, cars, m.cars, waited, m.g.Calls(), m.g.Recall())
	m.past = append(m.past, own)
	m.again, m.pressed, m.lost, m.blocked = nil, nil, map[int]bool{}, map[int]bool{}
}

// same holds a world to a model of it.
func same(t *testing.T, b bench, m *model, e api.Event) {
	t.Helper()
	g := b.Group()
	if b.Now() != len(m.past) || !slices.Equal(b.Cars(), m.cars) || !slices.Equal(b.Told(), m.told) || !slices.Equal(b.Faults(), m.faults) {
		t.Fatalf("%+v, tick %d, %+v: %v, %v, not %v, %v", m.s, len(m.past), e, b.Cars(), b.Told(), m.cars, m.told)
	}
	if !slices.Equal(g.Notes(), m.g.Notes()) || !slices.Equal(g.Calls(), m.g.Calls()) || g.Recall() != m.g.Recall() || g.Nodes() != m.g.Nodes() {
		t.Fatalf("%+v, tick %d, %+v: %v, %v, not %v, %v", m.s, len(m.past), e, g.Notes(), g.Calls(), m.g.Notes(), m.g.Calls())
	}
	for n := range m.cars {
		if g.Seen(n) != m.g.Seen(n) {
			t.Fatalf("%+v, tick %d, %+v: %v, not %v", m.s, len(m.past), e, g.Seen(n), m.g.Seen(n))
		}
	}
}
