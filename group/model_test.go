package group_test

import (
	"slices"

	"paternoster/api"
	"paternoster/frame"
	"paternoster/search"
)

// model is a group as the chapter tells it, kept by ticks' numbers and bare lists; of the layers below it asks frame.Decode and search.Find alone.
type model struct {
	s       api.Site
	now     int // the tick's number, from 1 on
	left    []byte
	seen    []api.Seen
	seq     []int // the last number that was taken
	came    []int // the tick in which it was, 0 if none ever was
	calls   []waiting
	barred  []bool
	recall  bool
	up      []bool
	down    []bool
	plan    [][]waiting
	planned int // the tick in which it planned last, 0 if it never did
	notes   []api.Note
	nodes   int
}

// waiting is a call, and the tick in which it came.
type waiting struct {
	floor, car int
	up         bool
	since      int
}

func newModel(s api.Site) *model {
	return &model{
		s: s, seen: make([]api.Seen, s.Cars), seq: make([]int, s.Cars), came: make([]int, s.Cars),
		barred: make([]bool, s.Floors), up: make([]bool, s.Cars), down: make([]bool, s.Cars), plan: make([][]waiting, s.Cars),
	}
}

func (m *model) note(kind, n int) { m.notes = append(m.notes, api.Note{Kind: kind, N: n}) }

func (m *model) tick(in []byte) []api.Command {
	m.now++
	m.notes, m.nodes = nil, 0
	m.scan(in)
	for car := range m.seen {
		m.seen[car].Live = m.came[car] > 0 && m.now-m.came[car]+1 < m.s.Silent
	}
	m.serve()
	if m.planned == 0 || m.now-m.planned >= m.s.Period {
		m.makePlan()
		m.planned = m.now
	}
	var told []api.Command
	for car := range m.seen {
		told = append(told, m.tell(car))
	}
	return told
}

func (m *model) scan(in []byte) {
	m.left = append(m.left, in...)
	var frames []api.Frame
	junk := 0
	for len(m.left) >= 10 {
		if f, e := frame.Decode(m.left[:10]); e == api.OK {
			frames = append(frames, f)
			m.left = m.left[10:]
		} else {
			junk++
			m.left = m.left[1:]
		}
	}
	if junk > 0 {
		m.note(api.NoteJunk, junk)
	}
	for _, f := range frames {
		switch f.Kind {
		case 1:
			m.report(f)
		case 2:
			m.press(f)
		case 3:
			m.turn(f)
		}
	}
}

func (m *model) report(f api.Frame) {
	if f.Car >= m.s.Cars || f.A >= m.s.Floors || f.B >= m.s.Floors {
		m.note(api.NoteWrong, 1)
		return
	}
	above := (f.Seq - m.seq[f.Car] + 65536) % 65536
	if m.came[f.Car] > 0 && (above < 1 || above > 32767) {
		m.note(api.NoteOld, f.Car)
		return
	}
	m.seq[f.Car], m.came[f.Car] = f.Seq, m.now
	m.seen[f.Car] = api.Seen{
		Out: m.seen[f.Car].Out, Floor: f.A, Target: f.B, Phase: f.C % 4,
		Moves: f.C/4%2 == 1, Fault: f.C/8%2 == 1, Over: f.C/16%2 == 1,
	}
}

func (m *model) press(f api.Frame) {
	c := waiting{floor: f.A, car: f.Car, since: m.now}
	if f.Car == 255 {
		c.car, c.up = -1, f.B == 1
	}
	switch {
	case c.floor >= m.s.Floors, c.car >= m.s.Cars, c.car == -1 && c.up && c.floor == m.s.Floors-1, c.car == -1 && !c.up && c.floor == 0, m.barred[c.floor]:
		m.note(api.NoteWrong, 2)
	case m.waits(c):
	case len(m.calls) == 128:
		m.note(api.NoteFull, c.floor)
	default:
		m.calls = append(m.calls, c)
	}
}

// waits tells whether a call waits that is alike.
func (m *model) waits(c waiting) bool {
	for _, other := range m.calls {
		if other.floor == c.floor && other.car == c.car && other.up == c.up {
			return true
		}
	}
	return false
}

func (m *model) turn(f api.Frame) {
	switch {
	case f.A == 1:
		m.recall = f.B == 1
	case f.A == 2 && f.Car < m.s.Cars:
		m.seen[f.Car].Out = f.B == 1
	case f.A == 3 && f.C < m.s.Floors:
		m.barred[f.C] = f.B == 1
	default:
		m.note(api.NoteWrong, 3)
	}
}

func (m *model) may(car int, c waiting) bool {
	x := m.seen[car]
	if !x.Live || x.Out || x.Fault {
		return false
	}
	return c.car == car || c.car == -1 && !x.Over
}

func (m *model) serve() {
	for car, x := range m.seen {
		if m.recall || !x.Live || m.came[car] != m.now || x.Moves || x.Phase != api.Opened {
			continue
		}
		var rest []waiting
		for _, c := range m.calls {
			fits := c.car == car || c.car == -1 && c.up && m.up[car] || c.car == -1 && !c.up && m.down[car]
			if c.floor == x.Floor && fits {
				m.note(api.NoteServe, c.floor)
			} else {
				rest = append(rest, c)
			}
		}
		m.calls = rest
	}
}

// travel gives the ticks from one floor to another one.
func (m *model) travel(from, to int) int {
	if from == to {
		return 0
	}
	return m.s.Start + m.s.Step*max(from-to, to-from) + m.s.Stop
}

func (m *model) snapshot() (api.Snap, []waiting) {
	snap := api.Snap{Site: m.s}
	for _, x := range m.seen {
		ready := api.Ready{Floor: x.Floor}
		if x.Moves {
			ready = api.Ready{Floor: x.Target, After: m.travel(x.Floor, x.Target)}
		} else if x.Phase != 0 {
			ready.After = m.s.Open + m.s.Wait + m.s.Close
		}
		snap.Cars = append(snap.Cars, ready)
	}
	var wanted []waiting
	for _, c := range m.calls {
		want := api.Want{Floor: c.floor}
		for car := range m.seen {
			if m.may(car, c) {
				want.Cars += []int{1, 2, 4, 8, 16, 32, 64, 128}[car]
			}
		}
		if want.Cars > 0 {
			snap.Wants = append(snap.Wants, want)
			wanted = append(wanted, c)
		}
	}
	return snap, wanted
}

func (m *model) makePlan() {
	snap, wanted := m.snapshot()
	found, _ := search.Find(snap, m.s.Budget)
	m.nodes = found.Nodes
	m.plan = make([][]waiting, m.s.Cars)
	for car, list := range found.Plan {
		for _, place := range list {
			m.plan[car] = append(m.plan[car], wanted[place])
		}
	}
	if found.Complete {
		m.note(api.NoteBest, found.Cost)
	} else {
		m.note(api.NotePlan, found.Cost)
	}
	if lost := len(m.calls) - len(wanted); lost > 0 {
		m.note(api.NoteLost, lost)
	}
}

// goal gives the call that a car goes for: the eldest that is old, of more the first; else the plan's next.
func (m *model) goal(car int) (waiting, bool) {
	var best waiting
	found := false
	for _, c := range m.calls {
		if m.may(car, c) && m.now-c.since+1 >= m.s.Age && (!found || c.since < best.since) {
			best, found = c, true
		}
	}
	if found {
		return best, true
	}
	for _, c := range m.plan[car] {
		if m.waits(c) && m.may(car, c) {
			return c, true
		}
	}
	return waiting{}, false
}

func (m *model) tell(car int) api.Command {
	x := m.seen[car]
	if !x.Live || x.Out || x.Fault || x.Moves || x.Phase != 0 {
		return api.Command{Go: -1}
	}
	c, ok := waiting{car: car}, true
	if !m.recall {
		c, ok = m.goal(car)
	}
	switch {
	case !ok:
		return api.Command{Go: -1}
	case c.floor != x.Floor:
		return api.Command{Go: c.floor}
	}
	m.up[car], m.down[car] = c.car == -1 && c.up, c.car == -1 && !c.up
	return api.Command{Open: true, Go: -1}
}

// all gives the calls that wait, as a group tells them.
func (m *model) all() []api.Call {
	var list []api.Call
	for _, c := range m.calls {
		list = append(list, api.Call{Floor: c.floor, Car: c.car, Up: c.up, Age: m.now - c.since + 1})
	}
	return slices.Clip(list)
}
