package world

import (
	"paternoster/api"
	"paternoster/car"
)

// member is a car of the world, and what has happened to it.
type member struct {
	api.Car
	over bool
	// These two are for the next tick alone.
	lost, blocked bool
}

// lose keeps the next tick's report off the bus.
func (m *member) lose() { m.lost = true }

// block lets somebody stand in the door in the next tick.
func (m *member) block() { m.blocked = true }

// step lets a tick pass for a car that was told something.
func (m *member) step(s api.Site, told api.Command) {
	m.Car = car.Step(s, m.Car, told, m.blocked)
}

// settle ends what was for one tick alone.
func (m *member) settle() { m.lost, m.blocked = false, false }

// report gives the frame by which a car tells how it is.
func (m *member) report(n, seq int) api.Frame {
	return api.Frame{Kind: api.FrameReport, Car: n, Seq: seq, A: m.Floor, B: m.Target, C: m.bits()}
}

// bits gives a report's C.
func (m *member) bits() int {
	bits := m.Door.Phase
	if m.Ticks > 0 {
		bits |= api.BitMoves
	}
	if m.Fault {
		bits |= api.BitFault
	}
	if m.over {
		bits |= api.BitOver
	}
	return bits
}
