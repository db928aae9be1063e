package safe_test

import (
	"math"
	"slices"
	"testing"

	"paternoster/api"
	"paternoster/car"
	"paternoster/safe"
)

const limit = api.Limit

// house gives a right site of so many cars, with six floors: a way takes 3 ticks, and 2 for each floor.
func house(cars int) api.Site {
	return api.Site{Floors: 6, Cars: cars, Start: 1, Step: 2, Stop: 2, Open: 1, Wait: 2, Close: 1, Nudge: 1, Age: 7, Silent: 3, Budget: 100, Period: 2}
}

// open gives a car that stands at a floor with its door in a phase.
func open(floor, phase int) api.Car {
	c := car.At(floor)
	c.Door = api.Door{Phase: phase, Left: 1}
	return c
}

// moving gives a car on its way, with so many ticks left.
func moving(floor, target, ticks int) api.Car {
	return api.Car{Floor: floor, Target: target, Ticks: ticks}
}

// up, down and in give calls that have waited so long: from the hall, and in a car.
func up(floor, age int) api.Call { return api.Call{Floor: floor, Car: -1, Age: age, Up: true} }

func down(floor, age int) api.Call { return api.Call{Floor: floor, Car: -1, Age: age} }

func in(car, floor, age int) api.Call { return api.Call{Floor: floor, Car: car, Age: age} }

// tick is a tick by hand, and what is wrong with it.
type tick struct {
	name         string
	s            api.Site
	before, now  []api.Car
	waited, wait []api.Call
	recall       bool
	want         []int
}

// holds asks each tick twice: what is wrong, that it stays so, and that nothing that is handed in changes.
func holds(t *testing.T, ticks []tick) {
	t.Helper()
	for _, c := range ticks {
		before, now := slices.Clone(c.before), slices.Clone(c.now)
		waited, wait := slices.Clone(c.waited), slices.Clone(c.wait)
		for range 2 {
			if got := safe.Tick(c.s, c.before, c.now, c.waited, c.wait, c.recall); !slices.Equal(got, c.want) {
				t.Errorf("%s: %v, not %v", c.name, got, c.want)
			}
		}
		if !slices.Equal(before, c.before) || !slices.Equal(now, c.now) || !slices.Equal(waited, c.waited) || !slices.Equal(wait, c.wait) {
			t.Errorf("%s: what was handed in has changed", c.name)
		}
	}
}

// cars makes a list of cars, waiting one of calls.
func cars(list ...api.Car) []api.Car { return list }

func waiting(list ...api.Call) []api.Call { return list }

// TestLeap: P16.1 and the chapter's example; the numbers of cars, the site, and each car by its own.
func TestLeap(t *testing.T) {
	two, leap := house(2), []int{safe.Leap}
	low, high := car.At(0), car.At(5)
	holds(t, []tick{
		{name: "all stand", s: two, before: cars(low, high), now: cars(low, high)},
		{name: "both begin to move", s: two, before: cars(low, high), now: cars(moving(0, 5, 13), moving(5, 0, 13))},
		{name: "one is there, one opens", s: two, before: cars(moving(1, 3, 1), high), now: cars(car.At(3), open(5, api.Opening))},
		{name: "the first one leaps", s: two, before: cars(low, high), now: cars(car.At(1), high), want: leap},
		{name: "the last one leaps", s: two, before: cars(low, high), now: cars(low, car.At(4)), want: leap},
		{name: "they change places", s: two, before: cars(low, high), now: cars(high, low), want: leap},
		{name: "it moves with its door open", s: two, before: cars(open(0, api.Opened), high), now: cars(moving(0, 1, 5), high), want: leap},
		{name: "one isn't right, but stays", s: two, before: cars(low, car.At(6)), now: cars(low, car.At(6)), want: leap},
		{name: "one was not right", s: two, before: cars(low, open(5, 4)), now: cars(low, high), want: leap},
		{name: "one is missing now", s: two, before: cars(low, high), now: cars(low), want: leap},
		{name: "one was missing", s: two, before: cars(low), now: cars(low, high), want: leap},
		{name: "fewer than the site has", s: two, before: cars(low), now: cars(low), want: leap},
		{name: "more than the site has", s: two, before: cars(low, high, low), now: cars(low, high, low), want: leap},
		{name: "none", s: two, want: leap},
		{name: "none now", s: two, before: cars(low, high), want: leap},
		{name: "none before", s: two, now: cars(low, high), want: leap},
		{name: "the most that a site has", s: house(8), before: slices.Repeat(cars(low), 8), now: slices.Repeat(cars(low), 8)},
		{name: "one less than the most", s: house(8), before: slices.Repeat(cars(low), 7), now: slices.Repeat(cars(low), 7), want: leap},
		{name: "the example: no car, of a site that isn't right", want: leap},
		{name: "no car, of a site that is right but for having none", s: house(0), want: leap},
		{name: "no car, of a site with less than none", s: house(-1), want: leap},
		{name: "no car, of a site with the least number", s: house(math.MinInt), want: leap},
		{name: "more than a site may have", s: house(9), before: slices.Repeat(cars(low), 9), now: slices.Repeat(cars(low), 9), want: leap},
		{name: "cars that may be, of a site that isn't right", s: api.Site{Floors: 6, Cars: 2}, before: cars(low, high), now: cars(low, high), want: leap},
	})
}

// TestFaultOfACar: P16.1; a car's fault, come or gone, is none of a tick's.
func TestFaultOfACar(t *testing.T) {
	faulty := api.Car{Floor: 2, Target: 2, Fault: true}
	holds(t, []tick{
		{name: "it comes", s: house(1), before: cars(car.At(2)), now: cars(faulty)},
		{name: "it goes", s: house(1), before: cars(faulty), now: cars(car.At(2))},
		{name: "it serves with one", s: house(1), before: cars(api.Car{Floor: 2, Target: 2, Door: api.Door{Phase: api.Opened, Left: 1}, Fault: true}), now: cars(open(2, api.Closing)), waited: waiting(up(2, 4))},
	})
}

// TestVanish: P16.1; whose a call is, where the car was, and its door.
func TestVanish(t *testing.T) {
	two, vanish := house(2), []int{safe.Vanish}
	at3 := cars(car.At(0), open(3, api.Opened))
	still := cars(car.At(0), open(3, api.Closing))
	holds(t, []tick{
		{name: "nothing waited", s: two, before: at3, now: still},
		{name: "up, where a car is open", s: two, before: at3, now: still, waited: waiting(up(3, 5))},
		{name: "down, where a car is open", s: two, before: at3, now: still, waited: waiting(down(3, 5))},
		{name: "in the car that is open", s: two, before: at3, now: still, waited: waiting(in(1, 3, 5))},
		{name: "all of them", s: two, before: at3, now: still, waited: waiting(up(3, 5), in(1, 3, 2), down(3, 1))},
		{name: "in the other car", s: two, before: at3, now: still, waited: waiting(in(0, 3, 5)), want: vanish},
		{name: "at another floor", s: two, before: at3, now: still, waited: waiting(up(2, 5)), want: vanish},
		{name: "in the car, to another floor", s: two, before: at3, now: still, waited: waiting(in(1, 2, 5)), want: vanish},
		{name: "at the floor of the car that is shut", s: two, before: at3, now: still, waited: waiting(down(0, 5)), want: vanish},
		{name: "one of many: the first", s: two, before: at3, now: still, waited: waiting(up(2, 5), up(3, 5), down(3, 5)), want: vanish},
		{name: "one of many: the last", s: two, before: at3, now: still, waited: waiting(up(3, 5), down(3, 5), in(1, 4, 5)), want: vanish},
		{name: "the other way waits still", s: two, before: cars(car.At(0), car.At(3)), now: cars(car.At(0), car.At(3)), waited: waiting(up(3, 5), down(3, 5)), wait: waiting(down(3, 6)), want: vanish},
		{name: "in a car waits still", s: two, before: cars(car.At(0), car.At(3)), now: cars(car.At(0), car.At(3)), waited: waiting(down(3, 5), in(1, 3, 5)), wait: waiting(in(1, 3, 6)), want: vanish},
		{name: "in another car waits still", s: two, before: cars(car.At(3), car.At(3)), now: cars(car.At(3), car.At(3)), waited: waiting(in(0, 3, 5), in(1, 3, 5)), wait: waiting(in(1, 3, 6)), want: vanish},
		{name: "at another floor waits still", s: two, before: cars(car.At(3), car.At(3)), now: cars(car.At(3), car.At(3)), waited: waiting(up(3, 5), up(2, 5)), wait: waiting(up(2, 6)), want: vanish},
		{name: "its door was shut", s: two, before: cars(car.At(0), car.At(3)), now: cars(car.At(0), car.At(3)), waited: waiting(up(3, 5)), want: vanish},
		{name: "its door was opening, and is open now", s: two, before: cars(car.At(0), open(3, api.Opening)), now: cars(car.At(0), open(3, api.Opened)), waited: waiting(up(3, 5)), want: vanish},
		{name: "its door was closing", s: two, before: cars(car.At(0), open(3, api.Closing)), now: cars(car.At(0), car.At(3)), waited: waiting(up(3, 5)), want: vanish},
		{name: "two waited that are alike, and were served", s: two, before: at3, now: still, waited: waiting(up(3, 5), up(3, 2))},
		{name: "two waited that are alike, and weren't", s: two, before: at3, now: still, waited: waiting(up(4, 5), up(4, 2)), want: vanish},
		{name: "an age doesn't make two calls", s: two, before: at3, now: still, waited: waiting(up(4, 5)), wait: waiting(up(4, 1)), want: []int{safe.Young}},
		{name: "it waits on, though a car was open", s: two, before: at3, now: still, waited: waiting(up(3, 5)), wait: waiting(up(3, 6))},
		{name: "a recall doesn't matter", s: two, before: at3, now: still, waited: waiting(up(3, 5)), recall: true},
		{name: "a recall serves nothing", s: two, before: at3, now: still, waited: waiting(up(4, 5)), recall: true, want: vanish},
	})
}

// TestVanishOfWrong: P16.1; calls and cars that can't be.
func TestVanishOfWrong(t *testing.T) {
	two, vanish, both := house(2), []int{safe.Vanish}, []int{safe.Leap, safe.Vanish}
	at3 := cars(open(3, api.Opened), open(3, api.Opened))
	rides := cars(api.Car{Floor: 3, Target: 4, Ticks: 2, Door: api.Door{Phase: api.Opened, Left: 1}}, car.At(0))
	third := cars(car.At(0), car.At(0), open(3, api.Opened))
	far := cars(open(-9, api.Opened), car.At(0))
	holds(t, []tick{
		{name: "in a car that there isn't", s: two, before: at3, now: at3, waited: waiting(in(2, 3, 5)), want: vanish},
		{name: "neither from a hall nor in a car", s: two, before: at3, now: at3, waited: waiting(in(-2, 3, 5)), want: vanish},
		{name: "in the car of the least number", s: two, before: at3, now: at3, waited: waiting(in(math.MinInt, 3, 5)), want: vanish},
		{name: "in the car of the greatest number", s: two, before: at3, now: at3, waited: waiting(in(math.MaxInt, 3, 5)), want: vanish},
		{name: "up in a car is that car's", s: two, before: at3, now: at3, waited: waiting(api.Call{Floor: 3, Car: 1, Up: true})},
		{name: "up in a car isn't alike with one that isn't up", s: two, before: cars(car.At(3), car.At(3)), now: cars(car.At(3), car.At(3)), waited: waiting(in(1, 3, 5), api.Call{Floor: 3, Car: 1, Up: true, Age: 5}), wait: waiting(in(1, 3, 6)), want: vanish},
		{name: "it moves, though its door is open", s: two, before: rides, now: rides, waited: waiting(up(3, 5)), want: both},
		{name: "it moves there, though its door is open", s: two, before: rides, now: rides, waited: waiting(up(4, 5)), want: both},
		{name: "a car that the site hasn't is one of them", s: two, before: third, now: third, waited: waiting(up(3, 5), in(2, 3, 5)), want: []int{safe.Leap}},
		{name: "a car that is there now alone", s: two, before: third[:2], now: third, waited: waiting(up(3, 5)), want: both},
		{name: "a car that is gone now", s: two, before: third, now: third[:2], waited: waiting(up(3, 5)), want: []int{safe.Leap}},
		{name: "a floor that there isn't", s: two, before: far, now: far, waited: waiting(up(-9, 5)), want: []int{safe.Leap}},
		{name: "no car", s: two, waited: waiting(up(0, 5)), want: both},
		{name: "no car, of a site that isn't right", waited: waiting(up(0, 5), in(0, 0, 5)), want: both},
	})
}

// TestAway: P16.1; who begins to move, whither, and whether there is a recall.
func TestAway(t *testing.T) {
	two, away := house(2), []int{safe.Away}
	low, high := car.At(0), car.At(5)
	wrong := cars(api.Car{Floor: 2, Target: 4})
	holds(t, []tick{
		{name: "no recall", s: two, before: cars(low, high), now: cars(moving(0, 3, 9), moving(5, 1, 11))},
		{name: "from the floor 0", s: two, before: cars(low, high), now: cars(moving(0, 3, 9), high), recall: true, want: away},
		{name: "to the next floor", s: two, before: cars(low, high), now: cars(moving(0, 1, 5), high), recall: true, want: away},
		{name: "from above, to another floor", s: two, before: cars(low, high), now: cars(low, moving(5, 1, 11)), recall: true, want: away},
		{name: "to the floor 0", s: two, before: cars(low, high), now: cars(low, moving(5, 0, 13)), recall: true},
		{name: "one to the floor 0, one away", s: two, before: cars(car.At(2), high), now: cars(moving(2, 0, 7), moving(5, 4, 5)), recall: true, want: away},
		{name: "one away, one to the floor 0", s: two, before: cars(car.At(2), high), now: cars(moving(2, 1, 5), moving(5, 0, 13)), recall: true, want: away},
		{name: "it moved already", s: two, before: cars(low, moving(2, 4, 3)), now: cars(low, moving(2, 4, 2)), recall: true},
		{name: "it is there", s: two, before: cars(low, moving(2, 4, 1)), now: cars(low, car.At(4)), recall: true},
		{name: "it stands, and opens elsewhere", s: two, before: cars(low, high), now: cars(low, open(5, api.Opening)), recall: true},
		{name: "with its door open", s: two, before: cars(low, open(5, api.Opened)), now: cars(low, moving(5, 4, 5)), recall: true, want: []int{safe.Leap, safe.Away}},
		{name: "to a floor that there isn't", s: two, before: cars(low, high), now: cars(low, moving(5, -1, 5)), recall: true, want: []int{safe.Leap, safe.Away}},
		{name: "from elsewhere to the floor 0", s: two, before: cars(low, high), now: cars(low, moving(4, 0, 5)), recall: true, want: []int{safe.Leap}},
		{name: "of a site that isn't right", before: cars(low), now: cars(moving(0, 1, 1)), recall: true, want: []int{safe.Leap, safe.Away}},
		{name: "among more cars than before", s: two, before: cars(low), now: cars(moving(0, 1, 5), low), recall: true, want: []int{safe.Leap, safe.Away}},
		{name: "among fewer cars than before", s: two, before: cars(low, high), now: cars(moving(0, 1, 5)), recall: true, want: []int{safe.Leap, safe.Away}},
		{name: "it wasn't there before", s: two, before: cars(low), now: cars(low, moving(5, 1, 11)), recall: true, want: []int{safe.Leap}},
		{name: "it stands, with another target", s: house(1), before: wrong, now: wrong, recall: true, want: []int{safe.Leap}},
	})
}

// TestYoung: P16.1; two that are alike, one that waited, and one that didn't.
func TestYoung(t *testing.T) {
	s, young := house(1), []int{safe.Young}
	at := cars(open(3, api.Opened))
	ages := func(name string, waited, wait []api.Call, want []int) tick {
		return tick{name: name, s: s, before: at, now: at, waited: waited, wait: wait, want: want}
	}
	holds(t, []tick{
		ages("a tick older", waiting(up(2, 5)), waiting(up(2, 6)), nil),
		ages("all a tick older", waiting(up(2, 5), down(4, 1), in(0, 1, 9)), waiting(up(2, 6), down(4, 2), in(0, 1, 10)), nil),
		ages("in another order", waiting(up(2, 5), down(4, 1)), waiting(down(4, 2), up(2, 6)), nil),
		ages("as old", waiting(up(2, 5)), waiting(up(2, 5)), young),
		ages("two ticks older", waiting(up(2, 5)), waiting(up(2, 7)), young),
		ages("younger", waiting(up(2, 5)), waiting(up(2, 4)), young),
		ages("as if it were new", waiting(up(2, 5)), waiting(up(2, 1)), young),
		ages("of many the first", waiting(up(2, 5), up(1, 5)), waiting(up(2, 5), up(1, 6)), young),
		ages("of many the last", waiting(up(2, 5), up(1, 5)), waiting(up(2, 6), up(1, 5)), young),
		ages("new", nil, waiting(up(2, 1)), nil),
		ages("new, beside another", waiting(up(2, 5)), waiting(up(2, 6), down(2, 1)), nil),
		ages("new, in a car", waiting(down(2, 5)), waiting(down(2, 6), in(0, 2, 1)), nil),
		ages("new, with no age", nil, waiting(up(2, 0)), young),
		ages("new, with an age", nil, waiting(up(2, 2)), young),
		ages("new, with less than no age", nil, waiting(up(2, -1)), young),
		ages("the age of another floor's", waiting(up(2, 5)), waiting(up(2, 6), up(1, 6)), young),
		ages("the age of the other way's", waiting(up(2, 5)), waiting(up(2, 6), down(2, 6)), young),
		ages("the age of another car's", waiting(in(0, 2, 5)), waiting(in(0, 2, 6), in(1, 2, 6)), young),
		ages("two that are alike", waiting(up(2, 5)), waiting(up(2, 6), up(2, 6)), young),
		ages("two new ones that are alike", nil, waiting(up(2, 1), up(2, 1)), young),
		ages("two that are alike but for their age: the last one may be", waiting(up(2, 5)), waiting(up(2, 9), up(2, 6)), young),
		ages("two that are alike but for their age: the first one may be", waiting(up(2, 5)), waiting(up(2, 6), up(2, 9)), young),
		ages("two that are alike, far from each other", nil, waiting(up(2, 1), up(1, 1), down(2, 1), up(2, 1)), young),
		ages("two that waited are alike: the last one counts", waiting(up(2, 5), up(2, 8)), waiting(up(2, 9)), nil),
		ages("two that waited are alike: the last one counts, though it is younger", waiting(up(2, 8), up(2, 5)), waiting(up(2, 6)), nil),
		ages("two that waited are alike: the first one doesn't count", waiting(up(2, 5), up(2, 8)), waiting(up(2, 6)), young),
		ages("at the limit", waiting(up(2, limit)), waiting(up(2, limit)), nil),
		ages("to the limit", waiting(up(2, limit-1)), waiting(up(2, limit)), nil),
		ages("beyond the limit", waiting(up(2, limit)), waiting(up(2, limit+1)), young),
		ages("from beyond the limit", waiting(up(2, math.MaxInt)), waiting(up(2, limit)), nil),
		ages("round", waiting(up(2, math.MaxInt)), waiting(up(2, math.MinInt)), young),
		ages("from below the limit", waiting(up(2, math.MinInt)), waiting(up(2, 1-limit)), nil),
		ages("from the least number, one more", waiting(up(2, math.MinInt)), waiting(up(2, math.MinInt+1)), young),
		ages("from less than no age", waiting(up(2, -1)), waiting(up(2, 0)), nil),
		ages("a call that can't be: new", nil, waiting(in(-7, math.MaxInt, 1)), nil),
		ages("a call that can't be: a tick older", waiting(in(math.MinInt, math.MinInt, 3)), waiting(in(math.MinInt, math.MinInt, 4)), nil),
		ages("a call that can't be: as old", waiting(in(math.MinInt, math.MinInt, 3)), waiting(in(math.MinInt, math.MinInt, 3)), young),
		ages("served, and none in its place", waiting(up(3, 5)), nil, nil),
		{name: "of a site that isn't right", wait: waiting(up(3, 0)), want: []int{safe.Leap, safe.Young}},
	})
}

// TestAllFaults: P16.1; each fault once, rising, however often it is there; and of each of the four that it stands by itself.
func TestAllFaults(t *testing.T) {
	s := house(3)
	before := cars(car.At(0), car.At(1), car.At(2))
	for set := range 16 {
		now, waited, wait := slices.Clone(before), waiting(up(3, 5)), waiting(up(3, 6))
		c := tick{name: "a set of faults", s: s, before: before, recall: true}
		if set&1 != 0 {
			now[1], now[2] = car.At(4), car.At(5)
			c.want = append(c.want, safe.Leap)
		}
		if set&2 != 0 {
			waited = append(waited, up(4, 1), down(4, 1))
			c.want = append(c.want, safe.Vanish)
		}
		if set&4 != 0 {
			now[0] = moving(0, 5, 13)
			c.want = append(c.want, safe.Away)
		}
		if set&8 != 0 {
			wait = append(wait, up(1, 7), up(1, 7), down(5, 7))
			c.want = append(c.want, safe.Young)
		}
		c.now, c.waited, c.wait = now, waited, wait
		holds(t, []tick{c})
	}
}

// TestOwnMemory: rule 4 of DOC.md; two answers share nothing.
func TestOwnMemory(t *testing.T) {
	first := safe.Tick(api.Site{}, nil, nil, waiting(up(1, 1)), waiting(up(2, 2)), true)
	second := safe.Tick(api.Site{}, nil, nil, waiting(up(1, 1)), waiting(up(2, 2)), true)
	for i := range first {
		first[i] = 99
	}
	_ = append(first, 99, 99)
	want := []int{safe.Leap, safe.Vanish, safe.Young}
	if third := safe.Tick(api.Site{}, nil, nil, waiting(up(1, 1)), waiting(up(2, 2)), true); !slices.Equal(second, want) || !slices.Equal(third, want) {
		t.Errorf("%v and %v, not %v", second, third, want)
	}
}

// TestEmptyLists: rule 3 of DOC.md; a list without elements is as a nil one.
func TestEmptyLists(t *testing.T) {
	one := cars(car.At(0))
	holds(t, []tick{
		{name: "no calls", s: house(1), before: one, now: one, waited: []api.Call{}, wait: []api.Call{}, recall: true},
		{name: "no cars", s: house(0), before: []api.Car{}, now: nil, want: []int{safe.Leap}},
		{name: "nor the other way round", s: house(0), before: nil, now: []api.Car{}, want: []int{safe.Leap}},
	})
}
