package car_test

import (
	"math"
	"testing"

	"paternoster/api"
	"paternoster/car"
	"paternoster/door"
	"paternoster/site"
)

// house is a right site with so many floors, and these ticks of motion.
func house(floors, start, step, stop int) api.Site {
	return api.Site{Floors: floors, Cars: 3, Start: start, Step: step, Stop: stop, Open: 1, Wait: 2, Close: 1, Nudge: 1, Age: 500, Silent: 20, Budget: 700, Period: 17}
}

// small has sites of which all cars can be gone through.
func small() []api.Site {
	var list []api.Site
	for floors := 2; floors <= 4; floors++ {
		for start := range 2 {
			for step := 1; step <= 2; step++ {
				for stop := range 2 {
					list = append(list, house(floors, start, step, stop))
				}
			}
		}
	}
	return list
}

// ends has sites whose numbers of floors and of motion are each the least or the most they may be.
func ends() []api.Site {
	var list []api.Site
	for _, floors := range []int{2, 64} {
		for _, start := range []int{0, 1000} {
			for _, step := range []int{1, 1000} {
				for _, stop := range []int{0, 1000} {
					list = append(list, house(floors, start, step, stop))
				}
			}
		}
	}
	return list
}

// wrongSites has sites that aren't right: one number alone, of those a car goes by and of the others.
func wrongSites() []api.Site {
	list := []api.Site{{}}
	for _, spoil := range []func(s *api.Site, n int){
		func(s *api.Site, n int) { s.Floors = n },
		func(s *api.Site, n int) { s.Cars = n },
		func(s *api.Site, n int) { s.Start = n },
		func(s *api.Site, n int) { s.Step = n },
		func(s *api.Site, n int) { s.Stop = n },
		func(s *api.Site, n int) { s.Open = n },
		func(s *api.Site, n int) { s.Nudge = n },
		func(s *api.Site, n int) { s.Period = n },
	} {
		for _, n := range []int{math.MinInt, -1, 1001, 1 << 40, math.MaxInt} {
			s := house(3, 1, 1, 1)
			spoil(&s, n)
			list = append(list, s)
		}
	}
	return list
}

// doors has doors of all phases, right ones and others.
func doors() []api.Door {
	var list []api.Door
	for phase := -1; phase <= 4; phase++ {
		for left := range 4 {
			for runs := range 3 {
				for _, held := range []bool{false, true} {
					list = append(list, api.Door{Phase: phase, Left: left, Runs: runs, Held: held})
				}
			}
		}
	}
	return list
}

// cars has all cars about the bounds of a small site, right or not.
func cars(s api.Site) []api.Car {
	var list []api.Car
	most := site.Travel(s, 0, s.Floors-1) + 1
	for floor := -1; floor <= s.Floors; floor++ {
		for target := -1; target <= s.Floors; target++ {
			for ticks := -1; ticks <= most; ticks++ {
				for _, d := range doors() {
					list = append(list, api.Car{Floor: floor, Target: target, Ticks: ticks, Door: d})
				}
			}
		}
	}
	return list
}

// rightCars has all right cars of a small site, each with a fault and without.
func rightCars(s api.Site) []api.Car {
	var list []api.Car
	for _, c := range cars(s) {
		if !may(s, c) {
			continue
		}
		list = append(list, c)
		c.Fault = true
		list = append(list, c)
	}
	return list
}

// may is the chapter's words on a right car in a right site.
func may(s api.Site, c api.Car) bool {
	for _, floor := range []int{c.Floor, c.Target} {
		if floor < 0 || floor > s.Floors-1 {
			return false
		}
	}
	if !door.Right(s, c.Door) {
		return false
	}
	if c.Ticks == 0 {
		return c.Target == c.Floor
	}
	way := max(c.Floor, c.Target) - min(c.Floor, c.Target)
	return way > 0 && c.Ticks > 0 && c.Ticks <= s.Start+way*s.Step+s.Stop && c.Door == api.Door{}
}

// behind is the chapter's words on a tick of a right car, line by line.
func behind(s api.Site, c api.Car, do api.Command, blocked bool) api.Car {
	if c.Ticks > 0 {
		if c.Ticks == 1 {
			return api.Car{Floor: c.Target, Target: c.Target, Fault: c.Fault}
		}
		return api.Car{Floor: c.Floor, Target: c.Target, Ticks: c.Ticks - 1, Fault: c.Fault}
	}
	if c.Door != (api.Door{}) {
		c.Door = door.Step(s, c.Door, do.Open, blocked)
		return c
	}
	if c.Fault {
		return c
	}
	if do.Open {
		c.Door = api.Door{Phase: api.Opening, Left: s.Open}
		return c
	}
	if do.Go >= 0 && do.Go < s.Floors && do.Go != c.Floor {
		way := max(c.Floor, do.Go) - min(c.Floor, do.Go)
		c.Target, c.Ticks = do.Go, s.Start+way*s.Step+s.Stop
	}
	return c
}

// fine is the chapter's words on what is safe, of two right cars.
func fine(before, now api.Car) bool {
	wasShut, isShut := before.Door == api.Door{}, now.Door == api.Door{}
	if now.Ticks > 0 {
		same := before.Ticks > 0 && before.Floor == now.Floor && before.Target == now.Target && now.Ticks == before.Ticks-1
		began := before.Ticks == 0 && wasShut && before.Floor == now.Floor
		return wasShut && (same || began)
	}
	if before.Ticks > 0 {
		return now.Floor == before.Target && before.Ticks == 1 && isShut
	}
	return now.Floor == before.Floor
}

// commands has all that a car of a site can be told, and floors that it hasn't.
func commands(s api.Site) []api.Command {
	list := []api.Command{api.Nothing()}
	for _, open := range []bool{false, true} {
		for to := -2; to <= s.Floors+1; to++ {
			list = append(list, api.Command{Open: open, Go: to})
		}
		for _, to := range []int{math.MinInt, 1 << 32, math.MaxInt} {
			list = append(list, api.Command{Open: open, Go: to})
		}
	}
	return list
}

// TestAt: P5.1; at each floor, and at floors that no site has.
func TestAt(t *testing.T) {
	for _, floor := range []int{0, 1, 2, 62, 63, 64, -1, math.MinInt, math.MaxInt} {
		for range 2 {
			if got := car.At(floor); got != (api.Car{Floor: floor, Target: floor}) || !car.Idle(got) {
				t.Errorf("At(%d) is %+v", floor, got)
			}
		}
	}
	for _, s := range ends() {
		for floor := -2; floor <= 66; floor++ {
			if got, want := car.Right(s, car.At(floor)), floor >= 0 && floor < s.Floors; got != want {
				t.Errorf("At(%d) is right among %d floors: %t", floor, s.Floors, got)
			}
		}
	}
}

// TestIdle: P5.1, and P1 and P2 of Idle; all right cars of small sites.
func TestIdle(t *testing.T) {
	for _, s := range small() {
		for _, c := range rightCars(s) {
			want := c.Ticks == 0 && c.Door.Phase == 0
			for range 2 {
				if got := car.Idle(c); got != want {
					t.Fatalf("Idle(%+v) is %t", c, got)
				}
			}
		}
	}
}

// TestIdleByHand: P5.1, without another reckoning.
func TestIdleByHand(t *testing.T) {
	for _, c := range []struct {
		name string
		c    api.Car
		want bool
	}{
		{"it stands", api.Car{Floor: 3, Target: 3}, true},
		{"a fault is nothing to it", api.Car{Floor: 3, Target: 3, Fault: true}, true},
		{"it moves", api.Car{Floor: 3, Target: 4, Ticks: 2}, false},
		{"it moves, in the last tick", api.Car{Floor: 3, Target: 4, Ticks: 1}, false},
		{"its door opens", api.Car{Floor: 3, Target: 3, Door: api.Door{Phase: api.Opening, Left: 1}}, false},
		{"its door is open", api.Car{Floor: 3, Target: 3, Door: api.Door{Phase: api.Opened, Left: 1}}, false},
		{"its door closes", api.Car{Floor: 3, Target: 3, Door: api.Door{Phase: api.Closing, Left: 1}}, false},
		{"at a floor that there isn't", api.Car{Floor: -7, Target: -7}, true},
		{"with less than no tick left", api.Car{Floor: 3, Target: 4, Ticks: -1}, false},
		{"it moves, though its door is open", api.Car{Floor: 3, Target: 4, Ticks: 1, Door: api.Door{Phase: api.Opened, Left: 1}}, false},
		{"a phase that there isn't", api.Car{Door: api.Door{Phase: math.MinInt}}, false},
	} {
		if got := car.Idle(c.c); got != c.want {
			t.Errorf("%s: %t", c.name, got)
		}
	}
}

// TestRight: P5.1, and P1 and P2 of Right; all cars about the bounds of small sites. A fault makes no car wrong, nor right.
func TestRight(t *testing.T) {
	for _, s := range small() {
		for _, c := range cars(s) {
			want := may(s, c)
			for _, fault := range []bool{false, true} {
				c.Fault = fault
				if got := car.Right(s, c); got != want {
					t.Fatalf("Right(%+v, %+v) is %t", s, c, got)
				}
			}
		}
	}
}

// TestRightByHand: P5.1, without another reckoning.
func TestRightByHand(t *testing.T) {
	s := house(5, 2, 3, 4)
	opens := api.Door{Phase: api.Opening, Left: 1}
	for _, c := range []struct {
		name string
		c    api.Car
		want bool
	}{
		{"at the lowest floor", api.Car{}, true},
		{"at the highest floor", api.Car{Floor: 4, Target: 4}, true},
		{"with a fault", api.Car{Floor: 4, Target: 4, Fault: true}, true},
		{"above the highest floor", api.Car{Floor: 5, Target: 5}, false},
		{"below the lowest floor", api.Car{Floor: -1, Target: -1}, false},
		{"it stands, with another target", api.Car{Floor: 1, Target: 2}, false},
		{"it stands, with its door opening", api.Car{Floor: 1, Target: 1, Door: opens}, true},
		{"it stands, with its door open", api.Car{Floor: 1, Target: 1, Door: api.Door{Phase: api.Opened, Left: 2, Runs: 1, Held: true}}, true},
		{"it stands, with a door that isn't right", api.Car{Floor: 1, Target: 1, Door: api.Door{Phase: api.Opened, Left: 3}}, false},
		{"it stands, with a shut door that isn't right", api.Car{Floor: 1, Target: 1, Door: api.Door{Held: true}}, false},
		{"it moves up, at first", api.Car{Floor: 1, Target: 3, Ticks: 12}, true},
		{"it moves up, at last", api.Car{Floor: 1, Target: 3, Ticks: 1}, true},
		{"it moves down, at first", api.Car{Floor: 3, Target: 1, Ticks: 12}, true},
		{"it moves, with a fault", api.Car{Floor: 3, Target: 1, Ticks: 12, Fault: true}, true},
		{"it moves for too long", api.Car{Floor: 1, Target: 3, Ticks: 13}, false},
		{"it moves with less than no tick left", api.Car{Floor: 1, Target: 3, Ticks: -1}, false},
		{"it moves to where it is", api.Car{Floor: 1, Target: 1, Ticks: 1}, false},
		{"it moves above the highest floor", api.Car{Floor: 1, Target: 5, Ticks: 1}, false},
		{"it moves below the lowest floor", api.Car{Floor: 1, Target: -1, Ticks: 1}, false},
		{"it comes from above the highest floor", api.Car{Floor: 5, Target: 1, Ticks: 1}, false},
		{"it comes from below the lowest floor", api.Car{Floor: -1, Target: 1, Ticks: 1}, false},
		{"it moves, with its door opening", api.Car{Floor: 1, Target: 3, Ticks: 1, Door: opens}, false},
		{"it moves, with its door closing", api.Car{Floor: 1, Target: 3, Ticks: 1, Door: api.Door{Phase: api.Closing, Left: 1}}, false},
		{"it moves, with a shut door that isn't right", api.Car{Floor: 1, Target: 3, Ticks: 1, Door: api.Door{Runs: 1}}, false},
	} {
		if got := car.Right(s, c.c); got != c.want {
			t.Errorf("%s: %t", c.name, got)
		}
	}
}

// TestRightEnds: P5.1; at the least and the most that a site lets the numbers be, and at the ends of an int.
func TestRightEnds(t *testing.T) {
	floors := []int{math.MinInt, -1, 0, 1, 2, 62, 63, 64, 1 << 32, math.MaxInt}
	for _, s := range ends() {
		whole, next := site.Travel(s, 0, s.Floors-1), site.Travel(s, 0, 1)
		for _, floor := range floors {
			for _, target := range floors {
				for _, ticks := range []int{math.MinInt, -1, 0, 1, next, next + 1, whole, whole + 1, 1 << 32, 1<<32 + 1, math.MaxInt} {
					c := api.Car{Floor: floor, Target: target, Ticks: ticks}
					if got, want := car.Right(s, c), may(s, c); got != want {
						t.Fatalf("Right(%+v, %+v) is %t", s, c, got)
					}
				}
			}
		}
	}
}

// TestWrongSite: P5.1 and P5.2; no car is right or safe in a site that isn't right, not even where the car's own numbers may be.
func TestWrongSite(t *testing.T) {
	list := rightCars(house(3, 1, 1, 1))
	for _, s := range wrongSites() {
		for _, c := range list {
			if car.Right(s, c) || car.Safe(s, c, c) || car.Safe(s, c, car.Step(s, c, api.Nothing(), false)) {
				t.Fatalf("%+v is right, or safe, in %+v", c, s)
			}
		}
	}
}

// TestStep: P5.1 and P5.2, and P1 and P2 of Step; all right cars of small sites, with all they can be told: as told, right, and safe.
func TestStep(t *testing.T) {
	for _, s := range small() {
		for _, c := range rightCars(s) {
			for _, do := range commands(s) {
				for _, blocked := range []bool{false, true} {
					got, want := car.Step(s, c, do, blocked), behind(s, c, do, blocked)
					if got != want {
						t.Fatalf("Step(%+v, %+v, %+v, %t) is %+v, not %+v", s, c, do, blocked, got, want)
					}
					if !may(s, got) || !car.Right(s, got) {
						t.Fatalf("Step(%+v, %+v, %+v, %t) is %+v, which isn't right", s, c, do, blocked, got)
					}
					if !car.Safe(s, c, got) {
						t.Fatalf("Step(%+v, %+v, %+v, %t) is %+v, which isn't safe", s, c, do, blocked, got)
					}
					if again := car.Step(s, c, do, blocked); again != got {
						t.Fatalf("Step(%+v, %+v, %+v, %t) is %+v, then %+v", s, c, do, blocked, got, again)
					}
				}
			}
		}
	}
}

// TestStepByHand: P5.1, without another reckoning; each rule of the chapter by itself.
func TestStepByHand(t *testing.T) {
	s := house(5, 2, 3, 4)
	open, go3 := api.Command{Open: true, Go: -1}, api.Command{Go: 3}
	opening, closing := api.Door{Phase: api.Opening, Left: 1}, api.Door{Phase: api.Closing, Left: 1}
	opened := api.Door{Phase: api.Opened, Left: 2}
	for _, c := range []struct {
		name    string
		c       api.Car
		do      api.Command
		blocked bool
		want    api.Car
	}{
		{"the document's example", car.At(0), go3, false, api.Car{Target: 3, Ticks: 15}},
		{"down", car.At(4), go3, false, api.Car{Floor: 4, Target: 3, Ticks: 9}},
		{"to the lowest floor", car.At(4), api.Command{}, false, api.Car{Floor: 4, Ticks: 18}},
		{"to the highest floor", car.At(3), api.Command{Go: 4}, false, api.Car{Floor: 3, Target: 4, Ticks: 9}},
		{"to above the highest floor", car.At(3), api.Command{Go: 5}, false, car.At(3)},
		{"to below the lowest floor", car.At(3), api.Nothing(), false, car.At(3)},
		{"to where it is", car.At(3), go3, false, car.At(3)},
		{"to go, with somebody in the door", car.At(0), go3, true, api.Car{Target: 3, Ticks: 15}},
		{"to open", car.At(3), open, false, api.Car{Floor: 3, Target: 3, Door: opening}},
		{"to open, with somebody in the door", car.At(3), open, true, api.Car{Floor: 3, Target: 3, Door: opening}},
		{"to open goes ahead of to go", car.At(2), api.Command{Open: true, Go: 3}, false, api.Car{Floor: 2, Target: 2, Door: opening}},
		{"to go, with a fault", api.Car{Fault: true}, go3, false, api.Car{Fault: true}},
		{"to open, with a fault", api.Car{Fault: true}, open, false, api.Car{Fault: true}},
		{"it moves", api.Car{Floor: 1, Target: 3, Ticks: 12}, api.Nothing(), false, api.Car{Floor: 1, Target: 3, Ticks: 11}},
		{"it moves, with a fault", api.Car{Floor: 1, Target: 3, Ticks: 12, Fault: true}, api.Nothing(), false, api.Car{Floor: 1, Target: 3, Ticks: 11, Fault: true}},
		{"it moves, and isn't told otherwise", api.Car{Floor: 1, Target: 3, Ticks: 12}, api.Command{Open: true, Go: 4}, true, api.Car{Floor: 1, Target: 3, Ticks: 11}},
		{"with two ticks left it moves on", api.Car{Floor: 1, Target: 3, Ticks: 2}, open, false, api.Car{Floor: 1, Target: 3, Ticks: 1}},
		{"it is there, and its door shut", api.Car{Floor: 1, Target: 3, Ticks: 1}, open, false, car.At(3)},
		{"it is there, and goes no farther in this tick", api.Car{Floor: 1, Target: 3, Ticks: 1}, api.Command{Go: 4}, false, car.At(3)},
		{"it is there, with a fault", api.Car{Floor: 1, Target: 3, Ticks: 1, Fault: true}, open, false, api.Car{Floor: 3, Target: 3, Fault: true}},
		{"its door opens", api.Car{Door: opening}, api.Nothing(), false, api.Car{Door: opened}},
		{"its door opens, with a fault", api.Car{Door: opening, Fault: true}, api.Nothing(), false, api.Car{Door: opened, Fault: true}},
		{"it doesn't go while its door is open", api.Car{Door: opened}, go3, false, api.Car{Door: api.Door{Phase: api.Opened, Left: 1}}},
		{"its door is held", api.Car{Door: opened}, go3, true, api.Car{Door: api.Door{Phase: api.Opened, Left: 2, Runs: 1, Held: true}}},
		{"its door is held, with a fault", api.Car{Door: closing, Fault: true}, open, true, api.Car{Door: api.Door{Phase: api.Opening, Left: 1, Runs: 1, Held: true}, Fault: true}},
		{"its door is shut, and it doesn't go yet", api.Car{Door: closing}, go3, false, car.At(0)},
		{"its door is shut, and doesn't open yet", api.Car{Door: closing}, open, false, car.At(0)},
	} {
		if got := car.Step(s, c.c, c.do, c.blocked); got != c.want {
			t.Errorf("%s: %+v, not %+v", c.name, got, c.want)
		}
	}
}

// TestRides: P5.1 and P5.2; at the ends of what a site may be each ride takes its travel and the tick in which it begins, and each tick is safe.
func TestRides(t *testing.T) {
	for _, s := range ends() {
		for _, way := range [][2]int{{0, 1}, {1, 0}, {0, s.Floors - 1}, {s.Floors - 1, 0}} {
			c, ticks := car.At(way[0]), 0
			for c != car.At(way[1]) && ticks <= 70000 {
				next := car.Step(s, c, api.Command{Go: way[1]}, true)
				if !car.Right(s, next) || !car.Safe(s, c, next) {
					t.Fatalf("%+v: %+v, then %+v", s, c, next)
				}
				c, ticks = next, ticks+1
			}
			if want := site.Travel(s, way[0], way[1]) + 1; ticks != want {
				t.Errorf("%+v: from %d to %d in %d ticks, not %d", s, way[0], way[1], ticks, want)
			}
		}
	}
}

// TestStepOfOthers: P1 and P2; of a site or a car that isn't right Step ends, and answers alike twice.
func TestStepOfOthers(t *testing.T) {
	numbers := []int{math.MinInt, -1, 0, 2, 1 << 40, math.MaxInt}
	told := []api.Command{{Go: math.MinInt}, {Go: -1}, {}, {Go: 2}, {Go: math.MaxInt}, {Open: true, Go: 2}}
	for _, s := range append(wrongSites(), house(3, 1, 1, 1)) {
		for _, floor := range numbers {
			for _, target := range numbers {
				for _, ticks := range numbers {
					for _, phase := range append(numbers, 1, 3) {
						c := api.Car{Floor: floor, Target: target, Ticks: ticks, Door: api.Door{Phase: phase, Left: ticks, Runs: floor}}
						for _, do := range told {
							if car.Step(s, c, do, true) != car.Step(s, c, do, true) {
								t.Fatalf("Step(%+v, %+v, %+v, true) isn't the same twice", s, c, do)
							}
						}
					}
				}
			}
		}
	}
}

// TestSafe: P5.2, and P1 and P2 of Safe; all right cars of small sites, each ahead of each.
func TestSafe(t *testing.T) {
	for _, s := range small() {
		list := rightCars(s)
		for _, before := range list {
			for _, now := range list {
				want := fine(before, now)
				if got := car.Safe(s, before, now); got != want {
					t.Fatalf("Safe(%+v, %+v, %+v) is %t", s, before, now, got)
				}
			}
		}
	}
}

// TestSafeOfOthers: P5.2; with a car that isn't right nothing is safe, whether it is the one before, the one now, or both.
func TestSafeOfOthers(t *testing.T) {
	s := house(3, 1, 1, 1)
	for _, wrong := range cars(s) {
		if may(s, wrong) {
			continue
		}
		for _, right := range []api.Car{car.At(wrong.Floor), car.At(wrong.Target), {Floor: wrong.Floor, Target: wrong.Target, Ticks: wrong.Ticks + 1}, {Floor: wrong.Floor, Target: wrong.Target, Ticks: wrong.Ticks - 1}, wrong} {
			if car.Safe(s, wrong, right) || car.Safe(s, right, wrong) {
				t.Fatalf("%+v and %+v are safe", wrong, right)
			}
		}
	}
}

// TestSafeByHand: P5.2, without another reckoning; each rule of the chapter by itself.
func TestSafeByHand(t *testing.T) {
	s := house(5, 2, 3, 4)
	opens := api.Car{Floor: 1, Target: 1, Door: api.Door{Phase: api.Opening, Left: 1}}
	up := func(ticks int) api.Car { return api.Car{Floor: 1, Target: 3, Ticks: ticks} }
	for _, c := range []struct {
		name        string
		before, now api.Car
		want        bool
	}{
		{"it moves on", up(12), up(11), true},
		{"it moves on, to the last tick", up(2), up(1), true},
		{"it moves on, and has a fault now", up(12), api.Car{Floor: 1, Target: 3, Ticks: 11, Fault: true}, true},
		{"it moves on, and had a fault", api.Car{Floor: 1, Target: 3, Ticks: 12, Fault: true}, up(11), true},
		{"it hangs", up(11), up(11), false},
		{"it leaps", up(12), up(10), false},
		{"it moves back", up(11), up(12), false},
		{"it goes on to another floor", up(9), api.Car{Floor: 1, Target: 2, Ticks: 8}, false},
		{"it comes from another floor", up(9), api.Car{Floor: 2, Target: 3, Ticks: 8}, false},
		{"it turns", up(9), api.Car{Floor: 3, Target: 1, Ticks: 8}, false},
		{"it begins to move", car.At(1), up(12), true},
		{"it begins to move, in whichever tick: the chapter doesn't rule it out", car.At(1), up(1), true},
		{"it begins to move, with a fault: faults don't matter", api.Car{Floor: 1, Target: 1, Fault: true}, up(12), true},
		{"it begins to move, from another floor", car.At(2), up(12), false},
		{"it begins to move, from its target", car.At(3), up(12), false},
		{"it begins to move, though its door was opening", opens, up(12), false},
		{"it begins to move, though its door was closing", api.Car{Floor: 1, Target: 1, Door: api.Door{Phase: api.Closing, Left: 1}}, up(12), false},
		{"it is there", up(1), car.At(3), true},
		{"it is there, and has a fault now", up(1), api.Car{Floor: 3, Target: 3, Fault: true}, true},
		{"it is there too early", up(2), car.At(3), false},
		{"it is there at once", up(12), car.At(3), false},
		{"it is where it came from", up(1), car.At(1), false},
		{"it is between", up(1), car.At(2), false},
		{"it is there, and opens already", up(1), api.Car{Floor: 3, Target: 3, Door: api.Door{Phase: api.Opening, Left: 1}}, false},
		{"it goes on from there at once", up(1), api.Car{Floor: 3, Target: 4, Ticks: 9}, false},
		{"it stands", car.At(1), car.At(1), true},
		{"it opens", car.At(1), opens, true},
		{"it is shut, whatever its door was: the chapter doesn't rule it out", opens, car.At(1), true},
		{"it stands elsewhere", car.At(1), car.At(2), false},
		{"it stands elsewhere, with its door open", opens, api.Car{Floor: 2, Target: 2, Door: opens.Door}, false},
		{"it stands, where there is no floor", car.At(5), car.At(5), false},
		{"it moves for too long", up(14), up(13), false},
		{"it moved for too long", up(13), up(12), false},
		{"its door is open as it moves", up(12), api.Car{Floor: 1, Target: 3, Ticks: 11, Door: opens.Door}, false},
		{"its door was open as it moved", api.Car{Floor: 1, Target: 3, Ticks: 12, Door: opens.Door}, up(11), false},
		{"it stands with another target", api.Car{Floor: 1, Target: 3}, car.At(1), false},
	} {
		if got := car.Safe(s, c.before, c.now); got != c.want {
			t.Errorf("%s: %t", c.name, got)
		}
	}
}

// TestNumbersOfAnyKind: P1 and P2 of Right, Idle and Safe, at the ends of an int.
func TestNumbersOfAnyKind(t *testing.T) {
	numbers := []int{math.MinInt, math.MinInt + 1, -1, 0, 1, math.MaxInt - 1, math.MaxInt}
	var list []api.Car
	for _, floor := range numbers {
		for _, target := range numbers {
			for _, ticks := range numbers {
				list = append(list, api.Car{Floor: floor, Target: target, Ticks: ticks, Door: api.Door{Phase: ticks, Left: target, Runs: floor}})
			}
		}
	}
	for _, s := range []api.Site{{}, house(math.MaxInt, math.MaxInt, math.MaxInt, math.MaxInt), house(math.MinInt, 0, 1, 0), house(3, 1, 1, 1)} {
		for _, before := range list {
			if car.Right(s, before) != car.Right(s, before) || car.Idle(before) != car.Idle(before) {
				t.Fatalf("%+v isn't the same twice", before)
			}
			for _, now := range list {
				if car.Safe(s, before, now) != (car.Right(s, before) && before == now) {
					t.Fatalf("Safe(%+v, %+v, %+v)", s, before, now)
				}
			}
		}
	}
}
