package group

import "paternoster/api"

const (
	// noCar is a frame's Car, where a button is in a hall.
	noCar = 255
	// phaseBits are those of a report's C that tell the door's phase.
	phaseBits = 3
	// on is the B of a switch that is turned on, and of a button for the way up.
	on = 1
)

// read takes the bytes that came over the bus, and does what their frames tell.
func (g *Group) read(in []byte) {
	frames, passed := g.scan.Feed(in)
	if passed > 0 {
		g.note(api.NoteJunk, passed)
	}
	for _, f := range frames {
		switch g.take(f) {
		case api.OK:
		case api.ErrOld:
			g.note(api.NoteOld, f.Car)
		case api.ErrFull:
			g.note(api.NoteFull, f.A)
		default:
			g.note(api.NoteWrong, f.Kind)
		}
	}
}

// take does what a frame tells: ErrOld is of reports alone, ErrFull of presses alone.
func (g *Group) take(f api.Frame) api.Errno {
	switch f.Kind {
	case api.FrameReport:
		return g.report(f)
	case api.FramePress:
		return g.press(f)
	case api.FrameSwitch:
		return g.turn(f)
	}
	return api.ErrForm
}

// report takes what a car tells of itself.
func (g *Group) report(f api.Frame) api.Errno {
	if !g.hasCar(f.Car) || f.A >= g.site.Floors || f.B >= g.site.Floors {
		return api.ErrRange
	}
	m := &g.cars[f.Car]
	if e := m.link.Take(f.Seq); e != api.OK {
		return e
	}
	m.Floor, m.Target, m.Phase = f.A, f.B, f.C&phaseBits
	m.Moves = f.C&api.BitMoves != 0
	m.Fault = f.C&api.BitFault != 0
	m.Over = f.C&api.BitOver != 0
	return api.OK
}

// press notes the call of a button.
func (g *Group) press(f api.Frame) api.Errno {
	if f.Car == noCar {
		return g.book.Press(api.Call{Floor: f.A, Car: hall, Up: f.B == on})
	}
	return g.book.Press(api.Call{Floor: f.A, Car: f.Car})
}

// turn turns a switch.
func (g *Group) turn(f api.Frame) api.Errno {
	switch f.A {
	case api.SwitchRecall:
		g.recall = f.B == on
	case api.SwitchOut:
		if !g.hasCar(f.Car) {
			return api.ErrRange
		}
		g.cars[f.Car].Out = f.B == on
	case api.SwitchBar:
		return g.book.Bar(f.C, f.B == on)
	default:
		return api.ErrArg
	}
	return api.OK
}
