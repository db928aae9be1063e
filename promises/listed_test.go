// Package promises tests what holds for all layers at once.
package promises

import (
	"testing"

	"paternoster/api"
	"paternoster/bound"
	"paternoster/calls"
	"paternoster/car"
	"paternoster/check"
	"paternoster/door"
	"paternoster/floors"
	"paternoster/frame"
	"paternoster/group"
	"paternoster/link"
	"paternoster/num"
	"paternoster/plan"
	"paternoster/route"
	"paternoster/rule"
	"paternoster/safe"
	"paternoster/search"
	"paternoster/site"
	"paternoster/tale"
	"paternoster/world"
)

// The calls that the chapters list: a call that is missing, or has another signature, doesn't compile here.
var (
	_ func(int, int) int = num.Add
	_ func(int, int) int = num.Sub
	_ func(int, int) int = num.Mul
	_ func(...int) int   = num.Sum
	_ func(int) bool     = num.Full

	_ func(...int) floors.Set                       = floors.Of
	_ func(int) floors.Set                          = floors.To
	_ func(floors.Set, int) bool                    = floors.Set.Has
	_ func(floors.Set, int) floors.Set              = floors.Set.With
	_ func(floors.Set, int) floors.Set              = floors.Set.Without
	_ func(floors.Set) int                          = floors.Set.Len
	_ func(floors.Set, int) func(func(int) bool)    = floors.Set.Up
	_ func(floors.Set, int) func(func(int) bool)    = floors.Set.Down
	_ func(floors.Set, int) (int, bool)             = floors.Set.Nearest
	_ func(api.Site) bool                           = site.Right
	_ func(api.Site, int, int) int                  = site.Travel
	_ func(api.Site) [][]int                        = site.Table
	_ func(api.Site, int) int                       = site.Service
	_ func(api.Site, int) int                       = site.Bound
	_ func(api.Site, api.Door, bool, bool) api.Door = door.Step
	_ func(api.Site, api.Door) bool                 = door.Right

	_ func(int) api.Car                                           = car.At
	_ func(api.Site, api.Car) bool                                = car.Right
	_ func(api.Site, api.Car, api.Command, bool) api.Car          = car.Step
	_ func(api.Car) bool                                          = car.Idle
	_ func(api.Site, api.Car, api.Car) bool                       = car.Safe
	_ func(api.Site) *calls.Book                                  = calls.New
	_ func(*calls.Book, api.Call) api.Errno                       = (*calls.Book).Press
	_ func(*calls.Book, int, bool) api.Errno                      = (*calls.Book).Bar
	_ func(*calls.Book)                                           = (*calls.Book).Tick
	_ func(*calls.Book, int, int, bool, bool) []api.Call          = (*calls.Book).Serve
	_ func(*calls.Book) []api.Call                                = (*calls.Book).All
	_ func(*calls.Book, int) (up, down, in floors.Set)            = (*calls.Book).Lamps
	_ func(*calls.Book) floors.Set                                = (*calls.Book).Barred
	_ func([]byte) int                                            = frame.Sum
	_ func(api.Frame) ([]byte, api.Errno)                         = frame.Encode
	_ func([]byte) (api.Frame, api.Errno)                         = frame.Decode
	_ func(*frame.Scanner, []byte) ([]api.Frame, int)             = (*frame.Scanner).Feed
	_ func() *link.Link                                           = link.New
	_ func(*link.Link, int) api.Errno                             = (*link.Link).Take
	_ func(*link.Link)                                            = (*link.Link).Tick
	_ func(*link.Link) int                                        = (*link.Link).Silent
	_ func(*link.Link, int) bool                                  = (*link.Link).Live
	_ func(api.Snap) bool                                         = plan.Right
	_ func(api.Snap, api.Plan) bool                               = plan.Feasible
	_ func(api.Snap) func(func(api.Plan) bool)                    = plan.All
	_ func(api.Ready) route.Stop                                  = route.Begin
	_ func(api.Site, route.Stop, int) route.Stop                  = route.Next
	_ func(api.Snap, api.Plan) ([]int, api.Errno)                 = route.Waits
	_ func(api.Snap, api.Plan) (int, api.Errno)                   = route.Cost
	_ func(api.Snap, int, api.Plan) (int, api.Errno)              = bound.Least
	_ func(api.Plan, int, api.Plan) bool                          = bound.Begins
	_ func(api.Snap) (api.Plan, api.Errno)                        = search.First
	_ func(api.Snap, int) (search.Result, api.Errno)              = search.Find
	_ func(api.Snap, []byte) (check.Claim, api.Errno)             = check.Check
	_ func(api.Snap) (api.Plan, api.Errno)                        = rule.Plan
	_ func([]api.Call, func(api.Call) bool, int) (api.Call, bool) = rule.Oldest

	_ func(api.Site) (*group.Group, api.Errno) = group.New
	_ func(*group.Group, []byte) []api.Command = (*group.Group).Tick
	_ func(*group.Group) []api.Note            = (*group.Group).Notes
	_ func(*group.Group) []api.Call            = (*group.Group).Calls
	_ func(*group.Group, int) api.Seen         = (*group.Group).Seen
	_ func(*group.Group) bool                  = (*group.Group).Recall
	_ func(*group.Group, int, api.Call) bool   = (*group.Group).May
	_ func(*group.Group) int                   = (*group.Group).Nodes

	_ func(api.Site, []api.Car, []api.Car, []api.Call, []api.Call, bool) []int = safe.Tick

	_ func(api.Site) (*world.World, api.Errno) = world.New
	_ func(*world.World, api.Event) api.Errno  = (*world.World).Do
	_ func(*world.World) []api.Car             = (*world.World).Cars
	_ func(*world.World) []api.Command         = (*world.World).Told
	_ func(*world.World) *group.Group          = (*world.World).Group
	_ func(*world.World) []int                 = (*world.World).Faults
	_ func(*world.World) int                   = (*world.World).Now
	_ func(api.Event) string                   = tale.Line
	_ func(string) (api.Event, api.Errno)      = tale.Read
	_ func(*world.World, []string) []string    = tale.Play
)

// The types that the chapters list with their fields.
var (
	_ = route.Stop{Floor: 0, Here: 0, Leave: 0}
	_ = search.Result{Plan: api.Plan{}, Cost: 0, Complete: false, Nodes: 0, Proof: []byte{}}
	_ = check.Claim{Best: false, Cost: 0, Plan: api.Plan{}}
)

// TestFaultNumbers: the numbers of the faults, as chapter 16 lists them.
func TestFaultNumbers(t *testing.T) {
	if got := [4]int{safe.Leap, safe.Vanish, safe.Away, safe.Young}; got != [4]int{1, 2, 3, 4} {
		t.Errorf("the faults are %v", got)
	}
}

// TestGivenNumbers: the limits and numbers of DOC.md's section 'Words', which all layers lean on.
func TestGivenNumbers(t *testing.T) {
	for _, c := range []struct {
		name      string
		got, want int
	}{
		{"MaxFloors", api.MaxFloors, 64},
		{"MaxCars", api.MaxCars, 8},
		{"MaxCalls", api.MaxCalls, 128},
		{"Limit", api.Limit, 1 << 40},
		{"FrameBytes", api.FrameBytes, 10},
		{"OK", int(api.OK), 0},
		{"ErrArg", int(api.ErrArg), 1},
		{"ErrProof", int(api.ErrProof), 10},
		{"Nothing", api.Nothing().Go, -1},
	} {
		if c.got != c.want {
			t.Errorf("%s is %d, not %d", c.name, c.got, c.want)
		}
	}
}
