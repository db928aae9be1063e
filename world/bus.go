package world

import (
	"slices"

	"paternoster/api"
	"paternoster/frame"
)

// hall is the Car of a call that isn't in one, noCar that of its frame.
const hall, noCar = -1, 255

// bus is what frames are put on, and what comes from it.
type bus struct {
	// past has what was put on the bus in each tick: any of them may be asked for again.
	past [][]byte
	// These two are for the next tick alone; again has places of past, as the bytes may be many.
	now   []byte
	again []int
}

// put puts a frame on the bus behind all others.
func (b *bus) put(f api.Frame) api.Errno {
	bytes, e := frame.Encode(f)
	if e != api.OK {
		return e
	}
	b.now = append(b.now, bytes...)
	return api.OK
}

// putAhead puts the cars' reports on the bus ahead of the frames that are there.
func (b *bus) putAhead(reports []api.Frame) {
	behind := b.now
	b.now = nil
	for _, f := range reports {
		b.put(f) // no error: a site's cars and floors are within a frame's bounds
	}
	b.now = append(b.now, behind...)
}

// repeat lets what was put on the bus in the last tick but so many, counted from 1, come again in the next one.
func (b *bus) repeat(last int) api.Errno {
	if last < 1 || last > b.ticks() {
		return api.ErrRange
	}
	b.again = append(b.again, b.ticks()-last)
	return api.OK
}

// coming gives what comes from the bus in this tick.
func (b *bus) coming() []byte {
	var all []byte
	for _, place := range b.again {
		all = append(all, b.past[place]...)
	}
	return append(all, b.now...)
}

// settle ends what was for one tick alone: what was put on the bus is of the past now, what came again isn't.
func (b *bus) settle() {
	b.past = append(b.past, slices.Clone(b.now)) // cloned, as it is kept for good, and its room isn't needed
	b.now, b.again = nil, nil
}

// ticks tells how many ticks have passed.
func (b *bus) ticks() int { return len(b.past) }

// press gives the frame of a button.
func press(c api.Call) api.Frame {
	f := api.Frame{Kind: api.FramePress, Car: c.Car, A: c.Floor, B: number(c.Up)}
	if c.Car == hall {
		f.Car = noCar
	}
	return f
}

// turn gives the frame of a switch.
func turn(e api.Event) api.Frame {
	return api.Frame{Kind: api.FrameSwitch, Car: e.B, A: e.A, B: number(e.On), C: e.B}
}

// number gives 1 for what is so, and 0 for what isn't.
func number(so bool) int {
	if so {
		return 1
	}
	return 0
}
