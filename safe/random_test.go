package safe_test

import (
	"math"
	"math/rand"
	"slices"
	"testing"

	"paternoster/api"
	"paternoster/calls"
	"paternoster/car"
	"paternoster/safe"
	"paternoster/site"
)

// same is the chapter's words on two calls that are alike.
func same(a, b api.Call) bool { return a.Floor == b.Floor && a.Car == b.Car && a.Up == b.Up }

// older is layer 1's Add of an age and 1, by steps.
func older(age int) int {
	if age >= limit {
		return limit
	}
	if age < -limit {
		age = -limit
	}
	return age + 1
}

// leapByWords is the chapter's words on a leap; that of no car, too, a site that isn't right is one, its example says.
func leapByWords(c tick) bool {
	if len(c.before) != len(c.now) || len(c.before) != c.s.Cars || !site.Right(c.s) {
		return true
	}
	for i, was := range c.before {
		if !car.Safe(c.s, was, c.now[i]) {
			return true
		}
	}
	return false
}

// vanishByWords is the chapter's words on a call that vanishes.
func vanishByWords(c tick) bool {
	for _, call := range c.waited {
		excused := false
		for _, other := range c.wait {
			excused = excused || same(call, other)
		}
		for i, was := range c.before {
			its := call.Car == -1 || call.Car == i
			excused = excused || its && was.Ticks == 0 && was.Floor == call.Floor && was.Door.Phase == 2
		}
		if !excused {
			return true
		}
	}
	return false
}

// awayByWords is the chapter's words on a car that goes away.
func awayByWords(c tick) bool {
	for i, is := range c.now {
		if c.recall && i < len(c.before) && is.Ticks != 0 && c.before[i].Ticks == 0 && is.Target != 0 {
			return true
		}
	}
	return false
}

// youngByWords is the chapter's words on a call of another age.
func youngByWords(c tick) bool {
	for i, call := range c.wait {
		want := 1
		for _, old := range c.waited {
			if same(call, old) {
				want = older(old.Age)
			}
		}
		if call.Age != want {
			return true
		}
		for _, other := range c.wait[:i] {
			if same(call, other) {
				return true
			}
		}
	}
	return false
}

// byWords gives what is wrong with a tick by the chapter's words, one by one.
func byWords(c tick) []int {
	var list []int
	for i, wrong := range []bool{leapByWords(c), vanishByWords(c), awayByWords(c), youngByWords(c)} {
		if wrong {
			list = append(list, i+1)
		}
	}
	return list
}

// anyCar gives a car, mostly a right one: idle, with its door in a phase, or on its way.
func anyCar(r *rand.Rand, s api.Site) api.Car {
	floor := r.Intn(s.Floors)
	switch r.Intn(9) {
	case 0, 1, 2:
		return open(floor, api.Opened)
	case 3:
		return open(floor, 1+r.Intn(3))
	case 4:
		return moving(floor, (floor+1)%s.Floors, 1+r.Intn(3))
	case 5:
		return api.Car{Floor: r.Intn(4) - 1, Target: r.Intn(4) - 1, Ticks: r.Intn(4) - 1, Door: api.Door{Phase: r.Intn(5)}}
	}
	return car.At(floor)
}

// anyCall gives a call at few floors and of few cars, so that many are alike; some can't be.
func anyCall(r *rand.Rand, s api.Site) api.Call {
	ages := []int{-1, 0, 1, 1, 1, 1, 2, 3, limit - 1, limit, limit + 1, math.MaxInt, math.MinInt, -limit}
	return api.Call{Floor: r.Intn(s.Floors+1) - r.Intn(2), Car: r.Intn(s.Cars+3) - 2, Age: ages[r.Intn(len(ages))], Up: r.Intn(2) == 0}
}

// anyTick gives a tick that is mostly as it may be, with few things changed.
func anyTick(r *rand.Rand) tick {
	c := tick{s: house(1 + r.Intn(3)), recall: r.Intn(2) == 0}
	c.s.Floors = 2 + r.Intn(2)
	for range c.s.Cars {
		was := anyCar(r, c.s)
		is := car.Step(c.s, was, api.Command{Open: r.Intn(3) == 0, Go: r.Intn(c.s.Floors+1) - 1}, false)
		if r.Intn(12) == 0 {
			is = anyCar(r, c.s)
		}
		c.before, c.now = append(c.before, was), append(c.now, is)
	}
	for range r.Intn(4) {
		c.waited = append(c.waited, anyCall(r, c.s))
	}
	for _, call := range c.waited {
		if r.Intn(3) > 0 {
			call.Age = older(call.Age)
			c.wait = append(c.wait, call)
		}
	}
	if r.Intn(3) == 0 {
		c.wait = append(c.wait, anyCall(r, c.s))
	}
	return spoilt(r, c)
}

// spoilt cuts a list of cars, or lets the site be wrong, now and then.
func spoilt(r *rand.Rand, c tick) tick {
	switch r.Intn(20) {
	case 0:
		c.before = c.before[:r.Intn(len(c.before))]
	case 1:
		c.now = c.now[:r.Intn(len(c.now))]
	case 2:
		c.before, c.now, c.s.Cars = nil, nil, r.Intn(3)-1
	case 3:
		c.s.Wait = 0
	}
	return c
}

// TestRandomTicks: P16.1, and P1 and P2 of Tick; all sets of faults, held against the chapter's words.
func TestRandomTicks(t *testing.T) {
	r := rand.New(rand.NewSource(16))
	var found [16]int
	for range 200_000 {
		c := anyTick(r)
		want := byWords(c)
		got := safe.Tick(c.s, c.before, c.now, c.waited, c.wait, c.recall)
		again := safe.Tick(c.s, c.before, c.now, c.waited, c.wait, c.recall)
		if !slices.Equal(got, want) || !slices.Equal(again, want) {
			t.Fatalf("%+v: %v, then %v, not %v", c, got, again, want)
		}
		set := 0
		for _, fault := range got {
			set |= 1 << (fault - 1)
		}
		found[set]++
	}
	if slices.Min(found[:]) < 100 {
		t.Errorf("of each set of faults so many ticks: %v", found)
	}
}

// TestTicksThatMayBe: P16.1; cars that Step, and a book of calls that serves where a door is open, have no fault, whatever they are told.
func TestTicksThatMayBe(t *testing.T) {
	r := rand.New(rand.NewSource(61))
	for range 50 {
		s := house(1 + r.Intn(8))
		book, now := calls.New(s), make([]api.Car, s.Cars)
		for range 200 {
			before, waited := slices.Clone(now), book.All()
			recall := r.Intn(4) == 0
			for range r.Intn(4) {
				book.Press(api.Call{Floor: r.Intn(s.Floors), Car: r.Intn(s.Cars+1) - 1, Up: r.Intn(2) == 0})
			}
			book.Tick()
			for i, c := range before {
				if c.Ticks == 0 && c.Door.Phase == api.Opened {
					book.Serve(i, c.Floor, r.Intn(2) == 0, r.Intn(2) == 0)
				}
				do := api.Command{Open: r.Intn(2) == 0, Go: r.Intn(s.Floors)}
				if recall {
					do.Go = 0
				}
				now[i] = car.Step(s, c, do, r.Intn(3) == 0)
			}
			if got := safe.Tick(s, before, now, waited, book.All(), recall); len(got) != 0 {
				t.Fatalf("%v: from %+v and %+v to %+v and %+v, recall %t", got, before, waited, now, book.All(), recall)
			}
		}
	}
}

// TestManyCallsAndCars: P1 and P16.1; lists that are far longer than any site's.
func TestManyCallsAndCars(t *testing.T) {
	const many = 3000
	c := tick{s: house(2), recall: true}
	for i := range many {
		c.before, c.now = append(c.before, open(i, api.Opened)), append(c.now, open(i, api.Opened))
		c.waited = append(c.waited, up(i, 4), in(i, i, i))
		c.wait = append(c.wait, down(i, 1))
	}
	if got := safe.Tick(c.s, c.before, c.now, c.waited, c.wait, c.recall); !slices.Equal(got, []int{safe.Leap}) {
		t.Errorf("served: %v", got)
	}
	c.waited = append(c.waited, in(many-1, many-2, 4))
	c.wait = append(c.wait, down(0, 1))
	c.now[many-1] = moving(many-1, 1, 1)
	if got := safe.Tick(c.s, c.before, c.now, c.waited, c.wait, c.recall); !slices.Equal(got, []int{safe.Leap, safe.Vanish, safe.Away, safe.Young}) {
		t.Errorf("one of each: %v", got)
	}
}
