package door_test

import (
	"math"
	"testing"

	"paternoster/api"
	"paternoster/door"
)

// house is a right site with these ticks of a door.
func house(open, wait, shut, nudge int) api.Site {
	return api.Site{Floors: 9, Cars: 3, Start: 2, Step: 3, Stop: 4, Open: open, Wait: wait, Close: shut, Nudge: nudge, Age: 500, Silent: 20, Budget: 700, Period: 17}
}

// small has sites of which all doors can be gone through; in most of them no two phases are of one length.
func small() []api.Site {
	var list []api.Site
	for open := 1; open <= 3; open++ {
		for wait := 1; wait <= 3; wait++ {
			for shut := 1; shut <= 3; shut++ {
				for nudge := range 4 {
					list = append(list, house(open, wait, shut, nudge))
				}
			}
		}
	}
	return list
}

// ends has sites whose numbers of a door are each the least or the most they may be.
func ends() []api.Site {
	var list []api.Site
	for _, open := range []int{1, 1000} {
		for _, wait := range []int{1, 1000} {
			for _, shut := range []int{1, 1000} {
				for _, nudge := range []int{0, 10} {
					list = append(list, house(open, wait, shut, nudge))
				}
			}
		}
	}
	return list
}

// wrongSites has sites that aren't right: one number alone, of those a door goes by and of the others.
func wrongSites() []api.Site {
	list := []api.Site{{}}
	for _, spoil := range []func(s *api.Site, n int){
		func(s *api.Site, n int) { s.Floors = n },
		func(s *api.Site, n int) { s.Cars = n },
		func(s *api.Site, n int) { s.Open = n },
		func(s *api.Site, n int) { s.Wait = n },
		func(s *api.Site, n int) { s.Close = n },
		func(s *api.Site, n int) { s.Nudge = n },
		func(s *api.Site, n int) { s.Period = n },
	} {
		for _, n := range []int{math.MinInt, -1, 1001, 1 << 40, math.MaxInt} {
			s := house(2, 3, 2, 2)
			spoil(&s, n)
			list = append(list, s)
		}
	}
	return list
}

// doors has all doors whose numbers are from least to most, right or not.
func doors(least, most int) []api.Door {
	var list []api.Door
	for phase := -1; phase <= 5; phase++ {
		for left := least; left <= most; left++ {
			for runs := least; runs <= most; runs++ {
				for _, held := range []bool{false, true} {
					list = append(list, api.Door{Phase: phase, Left: left, Runs: runs, Held: held})
				}
			}
		}
	}
	return list
}

// may is the chapter's words on a right door in a right site.
func may(s api.Site, d api.Door) bool {
	most, ok := map[int]int{0: 0, 1: s.Open, 2: s.Wait, 3: s.Close}[d.Phase]
	if !ok || d.Runs < 0 || d.Runs > s.Nudge || d.Left > most {
		return false
	}
	if d.Phase == 0 {
		return d.Left == 0 && d.Runs == 0 && !d.Held
	}
	return d.Left >= 1
}

// behind is the chapter's words on a tick, line by line.
func behind(s api.Site, d api.Door, open, blocked bool) api.Door {
	if d.Phase == 0 {
		if open {
			d.Phase, d.Left = 1, s.Open
		}
		return d
	}
	if !blocked {
		d.Held = false
	}
	if blocked && !d.Held && d.Runs < s.Nudge {
		d.Runs, d.Held = d.Runs+1, true
	}
	switch d.Phase {
	case 1:
		if d.Left--; d.Left == 0 {
			d.Phase, d.Left = 2, s.Wait
		}
	case 2:
		if d.Held {
			d.Left = s.Wait
		} else if d.Left--; d.Left == 0 {
			d.Phase, d.Left = 3, s.Close
		}
	case 3:
		if d.Held {
			d.Phase, d.Left = 1, s.Open
		} else if d.Left--; d.Left == 0 {
			d = api.Door{}
		}
	}
	return d
}

// told has all that a door can be told in a tick: to open, and that somebody stands in it.
var told = [][2]bool{{false, false}, {false, true}, {true, false}, {true, true}}

// TestRight: P4.1, and P1 and P2 of Right; all doors about the bounds of small sites.
func TestRight(t *testing.T) {
	for _, s := range small() {
		for _, d := range doors(-1, 4) {
			want := may(s, d)
			for range 2 {
				if got := door.Right(s, d); got != want {
					t.Fatalf("Right(%+v, %+v) is %t", s, d, got)
				}
			}
		}
	}
}

// TestRightByHand: P4.1, without another reckoning.
func TestRightByHand(t *testing.T) {
	s := house(5, 11, 6, 2)
	for _, c := range []struct {
		name string
		d    api.Door
		want bool
	}{
		{"the shut one", api.Door{}, true},
		{"shut, with a tick left", api.Door{Left: 1}, false},
		{"shut, with less than no tick left", api.Door{Left: -1}, false},
		{"shut, and it was held", api.Door{Runs: 1}, false},
		{"shut, and held", api.Door{Held: true}, false},
		{"opening, at first", api.Door{Phase: api.Opening, Left: 5}, true},
		{"opening, at last", api.Door{Phase: api.Opening, Left: 1}, true},
		{"opening for too long", api.Door{Phase: api.Opening, Left: 6}, false},
		{"opening, with no tick left", api.Door{Phase: api.Opening}, false},
		{"opening, held", api.Door{Phase: api.Opening, Left: 3, Runs: 1, Held: true}, true},
		{"opened, at first", api.Door{Phase: api.Opened, Left: 11}, true},
		{"opened, at last", api.Door{Phase: api.Opened, Left: 1}, true},
		{"opened for too long", api.Door{Phase: api.Opened, Left: 12}, false},
		{"opened, with no tick left", api.Door{Phase: api.Opened}, false},
		{"opened, held as often as may be", api.Door{Phase: api.Opened, Left: 11, Runs: 2, Held: true}, true},
		{"opened, held once too often", api.Door{Phase: api.Opened, Left: 11, Runs: 3, Held: true}, false},
		{"opened, held less than never", api.Door{Phase: api.Opened, Left: 11, Runs: -1}, false},
		{"opened, held, though it never was: the chapter doesn't rule it out", api.Door{Phase: api.Opened, Left: 11, Held: true}, true},
		{"closing, at first", api.Door{Phase: api.Closing, Left: 6}, true},
		{"closing, at last", api.Door{Phase: api.Closing, Left: 1, Runs: 2}, true},
		{"closing for too long", api.Door{Phase: api.Closing, Left: 7}, false},
		{"closing, with no tick left", api.Door{Phase: api.Closing}, false},
		{"closing, held: the chapter doesn't rule it out", api.Door{Phase: api.Closing, Left: 6, Runs: 1, Held: true}, true},
		{"a phase behind the last one", api.Door{Phase: 4, Left: 1}, false},
		{"a phase behind the last one, with no tick left", api.Door{Phase: 4}, false},
		{"a phase below the first one", api.Door{Phase: -1, Left: 1}, false},
		{"a phase below the first one, with no tick left", api.Door{Phase: -1}, false},
	} {
		if got := door.Right(s, c.d); got != c.want {
			t.Errorf("%s: %t", c.name, got)
		}
	}
}

// TestRightEnds: P4.1; at the least and the most that a site lets the numbers be, and at the ends of an int.
func TestRightEnds(t *testing.T) {
	for _, s := range ends() {
		numbers := []int{math.MinInt, math.MinInt + 1, -1, 0, 1, 2, 9, 10, 11, 999, 1000, 1001, 1 << 32, 1<<32 + 1, math.MaxInt - 1, math.MaxInt}
		for _, phase := range []int{math.MinInt, -1, 0, 1, 2, 3, 4, 1 << 32, 1<<32 + 1, math.MaxInt} {
			for _, left := range numbers {
				for _, runs := range numbers {
					for _, held := range []bool{false, true} {
						d := api.Door{Phase: phase, Left: left, Runs: runs, Held: held}
						if got, want := door.Right(s, d), may(s, d); got != want {
							t.Fatalf("Right(%+v, %+v) is %t", s, d, got)
						}
					}
				}
			}
		}
	}
}

// TestRightWrongSite: P4.1; no door is right in a site that isn't, not even where the door's own numbers may be.
func TestRightWrongSite(t *testing.T) {
	for _, s := range wrongSites() {
		for _, d := range doors(-1, 4) {
			if door.Right(s, d) {
				t.Fatalf("Right(%+v, %+v) is true", s, d)
			}
		}
	}
}

// TestStep: P4.1, and P1 and P2 of Step; all right doors of small sites, with all they can be told.
func TestStep(t *testing.T) {
	for _, s := range small() {
		for _, d := range doors(0, 3) {
			if !may(s, d) {
				continue
			}
			for _, by := range told {
				got, want := door.Step(s, d, by[0], by[1]), behind(s, d, by[0], by[1])
				if got != want {
					t.Fatalf("Step(%+v, %+v, %t, %t) is %+v, not %+v", s, d, by[0], by[1], got, want)
				}
				if !may(s, got) || !door.Right(s, got) {
					t.Fatalf("Step(%+v, %+v, %t, %t) is %+v, which isn't right", s, d, by[0], by[1], got)
				}
				if again := door.Step(s, d, by[0], by[1]); again != got {
					t.Fatalf("Step(%+v, %+v, %t, %t) is %+v, then %+v", s, d, by[0], by[1], got, again)
				}
			}
		}
	}
}

// TestStepEnds: P4.1; doors at the first and the last ticks of their phases, where a site's numbers are the least and the most.
func TestStepEnds(t *testing.T) {
	for _, s := range ends() {
		for phase := range 4 {
			for _, left := range []int{0, 1, 2, 999, 1000} {
				for runs := range 11 {
					for _, held := range []bool{false, true} {
						d := api.Door{Phase: phase, Left: left, Runs: runs, Held: held}
						if !may(s, d) {
							continue
						}
						for _, by := range told {
							got, want := door.Step(s, d, by[0], by[1]), behind(s, d, by[0], by[1])
							if got != want || !door.Right(s, got) {
								t.Fatalf("Step(%+v, %+v, %t, %t) is %+v, not %+v", s, d, by[0], by[1], got, want)
							}
						}
					}
				}
			}
		}
	}
}

// TestStepByHand: P4.1, without another reckoning; each rule of the chapter by itself.
func TestStepByHand(t *testing.T) {
	s := house(5, 11, 6, 2)
	never := house(5, 11, 6, 0)
	for _, c := range []struct {
		name          string
		s             api.Site
		d             api.Door
		open, blocked bool
		want          api.Door
	}{
		{"the document's example", s, api.Door{}, true, false, api.Door{Phase: api.Opening, Left: 5}},
		{"a shut door stays shut", s, api.Door{}, false, false, api.Door{}},
		{"nobody holds a shut door", s, api.Door{}, false, true, api.Door{}},
		{"nobody holds a door in the tick in which it begins to open", s, api.Door{}, true, true, api.Door{Phase: api.Opening, Left: 5}},
		{"it opens", s, api.Door{Phase: api.Opening, Left: 5}, false, false, api.Door{Phase: api.Opening, Left: 4}},
		{"it is open", s, api.Door{Phase: api.Opening, Left: 1}, false, false, api.Door{Phase: api.Opened, Left: 11}},
		{"to open changes nothing of a door that opens", s, api.Door{Phase: api.Opening, Left: 4}, true, false, api.Door{Phase: api.Opening, Left: 3}},
		{"held while it opens, it opens on", s, api.Door{Phase: api.Opening, Left: 4}, false, true, api.Door{Phase: api.Opening, Left: 3, Runs: 1, Held: true}},
		{"held in the last tick of opening", s, api.Door{Phase: api.Opening, Left: 1}, false, true, api.Door{Phase: api.Opened, Left: 11, Runs: 1, Held: true}},
		{"it waits", s, api.Door{Phase: api.Opened, Left: 11, Runs: 1}, false, false, api.Door{Phase: api.Opened, Left: 10, Runs: 1}},
		{"to open changes nothing of a door that waits", s, api.Door{Phase: api.Opened, Left: 4}, true, false, api.Door{Phase: api.Opened, Left: 3}},
		{"it begins to close", s, api.Door{Phase: api.Opened, Left: 1, Runs: 1}, false, false, api.Door{Phase: api.Closing, Left: 6, Runs: 1}},
		{"held while it waits, it waits anew", s, api.Door{Phase: api.Opened, Left: 3}, false, true, api.Door{Phase: api.Opened, Left: 11, Runs: 1, Held: true}},
		{"one hold counts once", s, api.Door{Phase: api.Opened, Left: 11, Runs: 1, Held: true}, false, true, api.Door{Phase: api.Opened, Left: 11, Runs: 1, Held: true}},
		{"a hold goes on at the last one", s, api.Door{Phase: api.Opened, Left: 11, Runs: 2, Held: true}, false, true, api.Door{Phase: api.Opened, Left: 11, Runs: 2, Held: true}},
		{"a hold ends", s, api.Door{Phase: api.Opened, Left: 11, Runs: 1, Held: true}, false, false, api.Door{Phase: api.Opened, Left: 10, Runs: 1}},
		{"held too often, it waits no longer", s, api.Door{Phase: api.Opened, Left: 3, Runs: 2}, false, true, api.Door{Phase: api.Opened, Left: 2, Runs: 2}},
		{"it closes", s, api.Door{Phase: api.Closing, Left: 6, Runs: 2}, false, false, api.Door{Phase: api.Closing, Left: 5, Runs: 2}},
		{"to open changes nothing of a door that closes", s, api.Door{Phase: api.Closing, Left: 4}, true, false, api.Door{Phase: api.Closing, Left: 3}},
		{"held while it closes, it opens again", s, api.Door{Phase: api.Closing, Left: 1, Runs: 1}, false, true, api.Door{Phase: api.Opening, Left: 5, Runs: 2, Held: true}},
		{"held too often, it closes", s, api.Door{Phase: api.Closing, Left: 2, Runs: 2}, false, true, api.Door{Phase: api.Closing, Left: 1, Runs: 2}},
		{"it is shut, and all is forgotten", s, api.Door{Phase: api.Closing, Left: 1, Runs: 2}, true, true, api.Door{}},
		{"nobody holds a door that isn't to be held", never, api.Door{Phase: api.Opened, Left: 3}, false, true, api.Door{Phase: api.Opened, Left: 2}},
		{"nor opens it again", never, api.Door{Phase: api.Closing, Left: 1}, false, true, api.Door{}},
	} {
		if got := door.Step(c.s, c.d, c.open, c.blocked); got != c.want {
			t.Errorf("%s: %+v, not %+v", c.name, got, c.want)
		}
	}
}

// TestStepOfOthers: P1 and P2; of a site or a door that isn't right Step ends, and answers alike twice.
func TestStepOfOthers(t *testing.T) {
	numbers := []int{math.MinInt, math.MinInt + 1, -1, 0, 1, 1 << 40, math.MaxInt}
	for _, s := range append(wrongSites(), house(2, 3, 2, 2)) {
		for _, phase := range append(numbers, 2, 3, 4) {
			for _, left := range numbers {
				for _, runs := range numbers {
					for _, held := range []bool{false, true} {
						d := api.Door{Phase: phase, Left: left, Runs: runs, Held: held}
						for _, by := range told {
							if door.Step(s, d, by[0], by[1]) != door.Step(s, d, by[0], by[1]) {
								t.Fatalf("Step(%+v, %+v, %t, %t) isn't the same twice", s, d, by[0], by[1])
							}
						}
					}
				}
			}
		}
	}
}

// most is the ticks of P4.2, where each hold is of so many ticks at most.
func most(s api.Site, hold int) int {
	run := s.Open + s.Wait + s.Close + 4
	return run + s.Nudge*(run+hold)
}

// moment is a door, and for how many ticks on end it is held.
type moment struct {
	d    api.Door
	held int
}

// after gives a moment behind a tick, and whether its hold is within the most.
func after(s api.Site, m moment, open, blocked bool, hold int) (moment, bool) {
	m.d = door.Step(s, m.d, open, blocked)
	m.held++
	if !m.d.Held {
		m.held = 0
	}
	return m, m.held <= hold
}

// longest gives the most ticks from a moment till the door is shut, whoever stands in it whenever, or more than the most, if it may stay open for so long.
func longest(s api.Site, m moment, hold int, known map[moment]int, deep int) int {
	if m.d == (api.Door{}) {
		return 0
	}
	if ticks, ok := known[m]; ok {
		return ticks
	}
	if deep > most(s, hold) {
		return deep
	}
	ticks := 0
	for _, by := range told {
		if next, ok := after(s, m, by[0], by[1], hold); ok {
			ticks = max(ticks, 1+longest(s, next, hold, known, deep+1))
		}
	}
	known[m] = ticks
	return ticks
}

// TestShutInTime: P4.2; all ways to stand in the doors of small sites, with holds of no tick to many.
func TestShutInTime(t *testing.T) {
	for _, s := range small() {
		for hold := range 9 {
			begin := moment{d: door.Step(s, api.Door{}, true, true)}
			got := longest(s, begin, hold, map[moment]int{}, 0)
			if got > most(s, hold) {
				t.Errorf("%+v, holds of %d: open for %d ticks or more, not %d", s, hold, got, most(s, hold))
			}
			if run := s.Open + s.Wait + s.Close; got < run {
				t.Errorf("%+v, holds of %d: open for at most %d ticks, but %d are a run", s, hold, got, run)
			}
		}
	}
}

// TestShutInTimeByHand: P4.2; each with the ticks it takes to the last one, at the ends of what a site may be, too.
func TestShutInTimeByHand(t *testing.T) {
	for _, c := range []struct {
		name string
		s    api.Site
		hold int
		// when tells at which door somebody comes, who then stays for the hold.
		when func(d api.Door) bool
		want int
	}{
		{"nobody comes", house(5, 11, 6, 2), 7, func(api.Door) bool { return false }, 22},
		{"as it is all but closing", house(5, 11, 6, 2), 7, func(d api.Door) bool { return d.Phase == api.Opened && d.Left == 1 }, 22 + 2*(7+10)},
		{"as it is all but shut", house(5, 11, 6, 2), 7, func(d api.Door) bool { return d.Phase == api.Closing && d.Left == 1 }, 22 + 2*(6+17)},
		{"for a tick alone", house(5, 11, 6, 2), 1, func(d api.Door) bool { return d.Phase == api.Closing && d.Left == 1 }, 22 + 2*22},
		{"a door that isn't to be held", house(5, 11, 6, 0), 7, func(api.Door) bool { return true }, 22},
		{"long, and often", house(1000, 1000, 1000, 10), 1000000, func(d api.Door) bool { return d.Phase == api.Closing && d.Left == 1 }, 3000 + 10*(999999+2000)},
		{"the least, and often", house(1, 1, 1, 10), 1000, func(d api.Door) bool { return d.Phase == api.Closing && d.Left == 1 }, 3 + 10*(999+2)},
	} {
		m := moment{d: door.Step(c.s, api.Door{}, true, false)}
		ticks, stays := 0, 0
		for ; m.d != (api.Door{}) && ticks <= most(c.s, c.hold); ticks++ {
			if stays == 0 && c.when(m.d) {
				stays = c.hold
			} else {
				stays = max(0, stays-1)
			}
			m, _ = after(c.s, m, false, stays > 0, c.hold)
		}
		if ticks != c.want || ticks > most(c.s, c.hold) {
			t.Errorf("%s: open for %d ticks, not %d, at most %d", c.name, ticks, c.want, most(c.s, c.hold))
		}
	}
}
