package calls_test

import (
	"math"
	"math/rand"
	"slices"
	"testing"

	"paternoster/api"
	"paternoster/calls"
	"paternoster/floors"
)

// house is a right site with so many floors and cars.
func house(floors, cars int) api.Site {
	return api.Site{Floors: floors, Cars: cars, Start: 2, Step: 3, Stop: 4, Open: 5, Wait: 11, Close: 6, Nudge: 2, Age: 500, Silent: 20, Budget: 700, Period: 17}
}

// houses has sites with the fewest and the most floors and cars, and some between.
func houses() []api.Site {
	var list []api.Site
	for _, floors := range []int{2, 3, 9, 63, 64} {
		for _, cars := range []int{1, 2, 5, 8} {
			list = append(list, house(floors, cars))
		}
	}
	return list
}

func hallUp(floor int) api.Call   { return api.Call{Floor: floor, Car: -1, Up: true} }
func hallDown(floor int) api.Call { return api.Call{Floor: floor, Car: -1} }
func inCar(floor, n int) api.Call { return api.Call{Floor: floor, Car: n} }
func aged(c api.Call, age int) api.Call {
	c.Age = age
	return c
}

// floorNumbers has every floor that a site may have, its neighbours, and numbers far from all floors.
func floorNumbers() []int {
	list := []int{math.MinInt, -1 << 40, -1 << 32, -64, 128, 256, 1 << 32, 1<<32 + 1, 1 << 40, math.MaxInt}
	for n := -2; n <= 66; n++ {
		list = append(list, n)
	}
	return list
}

// carNumbers has every car that a site may have, the hall, its neighbours, and numbers far from all cars.
func carNumbers() []int {
	list := []int{math.MinInt, -1 << 32, 255, 256, 1 << 32, 1<<32 - 1, math.MaxInt}
	for n := -3; n <= 9; n++ {
		list = append(list, n)
	}
	return list
}

// ages has what a call may tell of its age when it is pressed.
func ages() []int { return []int{0, 1, -1, 499, api.Limit, math.MinInt, math.MaxInt} }

// every has all calls that can be in a site, hall by hall and then car by car.
func every(s api.Site) []api.Call {
	var list []api.Call
	for floor := range s.Floors {
		if floor < s.Floors-1 {
			list = append(list, hallUp(floor))
		}
		if floor > 0 {
			list = append(list, hallDown(floor))
		}
	}
	for n := range s.Cars {
		for floor := range s.Floors {
			list = append(list, inCar(floor, n))
		}
	}
	return list
}

// press presses calls that must all be taken.
func press(t *testing.T, b *calls.Book, list ...api.Call) {
	t.Helper()
	for _, c := range list {
		if e := b.Press(c); e != api.OK {
			t.Fatalf("Press(%+v) is %v", c, e)
		}
	}
}

// waits fails, if other calls wait, or in another order.
func waits(t *testing.T, b *calls.Book, name string, want ...api.Call) {
	t.Helper()
	for range 2 {
		if got := b.All(); !slices.Equal(got, want) {
			t.Fatalf("%s: %v wait, not %v", name, got, want)
		}
	}
}

// wrong is the chapter's words on a call that can't be, in their order.
func wrong(s api.Site, c api.Call) api.Errno {
	if c.Floor < 0 || c.Floor > s.Floors-1 || c.Car < -1 || c.Car > s.Cars-1 {
		return api.ErrRange
	}
	upInCar := c.Up && c.Car >= 0
	upFromTop := c.Up && c.Car == -1 && c.Floor == s.Floors-1
	downFromZero := !c.Up && c.Car == -1 && c.Floor == 0
	if upInCar || upFromTop || downFromZero {
		return api.ErrArg
	}
	return api.OK
}

// TestNew: P6.1: no call waits, no floor is barred, no lamp is lit; and two books of a site are two.
func TestNew(t *testing.T) {
	for _, s := range houses() {
		b, other := calls.New(s), calls.New(s)
		press(t, other, inCar(1, 0), hallUp(0))
		other.Bar(1, true)
		waits(t, b, "a new book")
		if got := b.Barred(); got != 0 {
			t.Errorf("%x is barred in a new book", got)
		}
		for _, n := range carNumbers() {
			if up, down, in := b.Lamps(n); up != 0 || down != 0 || in != 0 {
				t.Errorf("the lamps of %d in a new book: %x %x %x", n, up, down, in)
			}
			for _, floor := range floorNumbers() {
				if got := b.Serve(n, floor, true, true); len(got) != 0 {
					t.Errorf("a new book serves %v", got)
				}
			}
		}
	}
}

// TestPressOne: P6.1, and P1 of Press; each call about the bounds alone in a book, whatever age it tells.
func TestPressOne(t *testing.T) {
	for _, s := range houses() {
		for _, floor := range floorNumbers() {
			for _, n := range carNumbers() {
				for _, up := range []bool{false, true} {
					for _, age := range ages() {
						c := api.Call{Floor: floor, Car: n, Up: up, Age: age}
						b := calls.New(s)
						want := wrong(s, c)
						if got := b.Press(c); got != want {
							t.Fatalf("%d floors, %d cars: Press(%+v) is %v, not %v", s.Floors, s.Cars, c, got, want)
						}
						if want == api.OK {
							waits(t, b, "one call", aged(c, 0))
						} else {
							waits(t, b, "no call")
						}
					}
				}
			}
		}
	}
}

// TestPressByHand: P6.1, without another reckoning; the errors in their order.
func TestPressByHand(t *testing.T) {
	b := calls.New(house(5, 2))
	for _, c := range []struct {
		name string
		call api.Call
		want api.Errno
	}{
		{"up from the floor 0", hallUp(0), api.OK},
		{"down from the floor 0", hallDown(0), api.ErrArg},
		{"down from the top floor", hallDown(4), api.OK},
		{"up from the top floor", hallUp(4), api.ErrArg},
		{"in a car to the floor 0", inCar(0, 0), api.OK},
		{"in a car to the top floor", inCar(4, 1), api.OK},
		{"up in a car", api.Call{Floor: 2, Car: 1, Up: true}, api.ErrArg},
		{"a floor above", hallDown(5), api.ErrRange},
		{"a floor below", hallUp(-1), api.ErrRange},
		{"a floor above, and up in a car", api.Call{Floor: 5, Car: 1, Up: true}, api.ErrRange},
		{"a car that there isn't", inCar(2, 2), api.ErrRange},
		{"a car that there isn't, and up", api.Call{Floor: 2, Car: 2, Up: true}, api.ErrRange},
		{"a car below the hall", inCar(2, -2), api.ErrRange},
		{"the number of no car in a frame", inCar(2, 255), api.ErrRange},
	} {
		if got := b.Press(c.call); got != c.want {
			t.Errorf("%s: %v, not %v", c.name, got, c.want)
		}
	}
	waits(t, b, "what was right", hallUp(0), hallDown(4), inCar(0, 0), inCar(4, 1))
}

// TestPressAlike: P6.1, with the document's example: of two that are alike the first one waits on, at its place and as old as it is.
func TestPressAlike(t *testing.T) {
	b := calls.New(house(9, 3))
	press(t, b, hallUp(3), inCar(3, 0))
	b.Tick()
	press(t, b, hallDown(3))
	b.Tick()
	for _, age := range ages() {
		press(t, b, aged(hallDown(3), age), aged(inCar(3, 0), age), aged(hallUp(3), age))
	}
	waits(t, b, "pressed again", aged(hallUp(3), 2), aged(inCar(3, 0), 2), aged(hallDown(3), 1))
	press(t, b, inCar(3, 1), hallUp(4), inCar(4, 0))
	waits(t, b, "the floor, the car and the way each count", aged(hallUp(3), 2), aged(inCar(3, 0), 2), aged(hallDown(3), 1), inCar(3, 1), hallUp(4), inCar(4, 0))
}

// TestPressEvery: P6.1, P6.3: all calls of a small site wait at once, none alike to another, in the order in which they came.
func TestPressEvery(t *testing.T) {
	for _, s := range []api.Site{house(2, 1), house(2, 8), house(9, 8), house(64, 1)} {
		all := every(s)
		all = all[:min(len(all), api.MaxCalls)]
		for _, backwards := range []bool{false, true} {
			if backwards {
				slices.Reverse(all)
			}
			b := calls.New(s)
			press(t, b, all...)
			press(t, b, all...)
			waits(t, b, "every call", all...)
		}
	}
}

// TestPressFull: P6.1: the 128th call waits, the 129th doesn't; what is asked ahead of it is told ahead of it.
func TestPressFull(t *testing.T) {
	s := house(64, 8)
	all := every(s)
	for _, shift := range []int{0, 60, 126, 300} {
		b := calls.New(s)
		in, out := all[shift:shift+api.MaxCalls], slices.Concat(all[:shift], all[shift+api.MaxCalls:])
		press(t, b, in...)
		for _, c := range out {
			if e := b.Press(c); e != api.ErrFull {
				t.Fatalf("Press(%+v) into a full book is %v", c, e)
			}
		}
		press(t, b, in...)
		for _, c := range []api.Call{hallUp(63), hallDown(0), {Floor: 1, Car: 1, Up: true}} {
			if e := b.Press(c); e != api.ErrArg {
				t.Errorf("Press(%+v) into a full book is %v", c, e)
			}
		}
		for _, c := range []api.Call{hallUp(64), inCar(1, 8)} {
			if e := b.Press(c); e != api.ErrRange {
				t.Errorf("Press(%+v) into a full book is %v", c, e)
			}
		}
		waits(t, b, "a full book", in...)
		b.Bar(out[0].Floor, true)
		if e := b.Press(out[0]); e != api.ErrBarred {
			t.Errorf("Press at a barred floor into a full book is %v", e)
		}
		b.Bar(out[0].Floor, false)
		first := in[0]
		if got := b.Serve(first.Car, first.Floor, first.Up, !first.Up); !slices.Contains(got, first) {
			t.Fatalf("%v is served, not %v", got, first)
		}
		press(t, b, out[0])
		if got := b.All(); got[len(got)-1] != out[0] {
			t.Errorf("%v came last, not %v", got[len(got)-1], out[0])
		}
	}
}

// TestBar: P6.1, P6.3, and P1 of Bar; each floor of a site and numbers that are none.
func TestBar(t *testing.T) {
	for _, s := range houses() {
		b := calls.New(s)
		var want floors.Set
		for _, barred := range []bool{true, true, false, false, true} {
			for _, floor := range floorNumbers() {
				is := floor >= 0 && floor < s.Floors
				e := b.Bar(floor, barred)
				if is != (e == api.OK) || !is && e != api.ErrRange {
					t.Fatalf("Bar(%d, %t) is %v", floor, barred, e)
				}
				if is && barred {
					want |= 1 << floor
				} else if is {
					want &^= 1 << floor
				}
				if got := b.Barred(); got != want {
					t.Fatalf("%x is barred behind Bar(%d, %t), not %x", got, floor, barred, want)
				}
			}
		}
	}
}

// TestBarred: P6.1: at a barred floor nothing more is noted, from a hall or in a car, and what waits there goes on waiting.
func TestBarred(t *testing.T) {
	b := calls.New(house(64, 3))
	press(t, b, hallUp(5), inCar(5, 1), hallDown(6))
	b.Bar(5, true)
	b.Bar(63, true)
	b.Bar(0, true)
	for _, c := range []api.Call{hallUp(5), hallDown(5), inCar(5, 1), inCar(5, 2), hallDown(63), inCar(63, 0), hallUp(0), inCar(0, 0)} {
		if e := b.Press(c); e != api.ErrBarred {
			t.Errorf("Press(%+v) at a barred floor is %v", c, e)
		}
	}
	for _, c := range []api.Call{hallUp(63), hallDown(0), {Floor: 5, Car: 0, Up: true}} {
		if e := b.Press(c); e != api.ErrArg {
			t.Errorf("Press(%+v), which can't be, at a barred floor is %v", c, e)
		}
	}
	if e := b.Press(inCar(5, 3)); e != api.ErrRange {
		t.Errorf("Press in a car that there isn't at a barred floor is %v", e)
	}
	b.Tick()
	waits(t, b, "a floor was barred", aged(hallUp(5), 1), aged(inCar(5, 1), 1), aged(hallDown(6), 1))
	if up, _, in := b.Lamps(1); up != floors.Of(5) || in != floors.Of(5) {
		t.Errorf("the lamps at a barred floor: %x %x", up, in)
	}
	if got := b.Serve(1, 5, true, true); !slices.Equal(got, []api.Call{aged(hallUp(5), 1), aged(inCar(5, 1), 1)}) {
		t.Errorf("%v is served at a barred floor", got)
	}
	b.Bar(5, false)
	press(t, b, hallUp(5))
	waits(t, b, "barred no longer", aged(hallDown(6), 1), hallUp(5))
}

// TestTick: P6.2: each call is a tick older, whether from a hall or in a car, and whenever it came.
func TestTick(t *testing.T) {
	s := house(9, 3)
	b := calls.New(s)
	b.Tick()
	var want []api.Call
	for i, c := range every(s) {
		press(t, b, c)
		want = append(want, c)
		for range i % 4 {
			b.Tick()
			for k := range want {
				want[k].Age++
			}
			waits(t, b, "a tick", want...)
		}
	}
	for range 1000 {
		b.Tick()
	}
	for k := range want {
		want[k].Age += 1000
	}
	waits(t, b, "a thousand ticks", want...)
}

// split is the chapter's words on what is served, and what waits on.
func split(all []api.Call, car, floor int, up, down bool) (served, rest []api.Call) {
	for _, c := range all {
		hall := c.Car == -1 && (c.Up && up || !c.Up && down)
		in := c.Car >= 0 && c.Car == car
		if c.Floor == floor && (hall || in) {
			served = append(served, c)
		} else {
			rest = append(rest, c)
		}
	}
	return served, rest
}

// TestServe: P6.2, and P1 of Serve; all cars, floors and ways, and numbers that are none, in books with many calls.
func TestServe(t *testing.T) {
	for _, s := range []api.Site{house(2, 1), house(3, 8), house(9, 3), house(64, 2)} {
		all := every(s)
		all = all[:min(len(all), api.MaxCalls)]
		rand.New(rand.NewSource(1)).Shuffle(len(all), func(i, k int) { all[i], all[k] = all[k], all[i] })
		for _, n := range carNumbers() {
			for _, floor := range floorNumbers() {
				for ways := range 4 {
					up, down := ways&1 != 0, ways&2 != 0
					b := calls.New(s)
					press(t, b, all...)
					served, rest := split(all, n, floor, up, down)
					if got := b.Serve(n, floor, up, down); !slices.Equal(got, served) {
						t.Fatalf("Serve(%d, %d, %t, %t) is %v, not %v", n, floor, up, down, got, served)
					}
					waits(t, b, "served", rest...)
					if got := b.Serve(n, floor, up, down); len(got) != 0 {
						t.Fatalf("Serve(%d, %d, %t, %t), again, is %v", n, floor, up, down, got)
					}
					waits(t, b, "served again", rest...)
				}
			}
		}
	}
}

// TestServeByHand: P6.2, without another reckoning.
func TestServeByHand(t *testing.T) {
	for _, c := range []struct {
		name       string
		car, floor int
		up, down   bool
		want       []api.Call
	}{
		{"up", 1, 3, true, false, []api.Call{aged(inCar(3, 1), 1), hallUp(3)}},
		{"down", 1, 3, false, true, []api.Call{aged(hallDown(3), 1), aged(inCar(3, 1), 1)}},
		{"both", 2, 3, true, true, []api.Call{aged(hallDown(3), 1), hallUp(3), inCar(3, 2)}},
		{"neither", 1, 3, false, false, []api.Call{aged(inCar(3, 1), 1)}},
		{"a car that nobody called in", 0, 3, true, false, []api.Call{hallUp(3)}},
		{"another floor", 1, 4, true, true, []api.Call{inCar(4, 1)}},
		{"a floor where nobody waits", 1, 5, true, true, nil},
		{"a car of the hall's number isn't one", -1, 3, false, false, nil},
		{"who waits in a hall is served by any", -1, 3, true, false, []api.Call{hallUp(3)}},
	} {
		b := calls.New(house(9, 3))
		press(t, b, hallDown(3), inCar(3, 1))
		b.Tick()
		press(t, b, inCar(4, 1), hallUp(3), inCar(3, 2))
		if got := b.Serve(c.car, c.floor, c.up, c.down); !slices.Equal(got, c.want) {
			t.Errorf("%s: %v, not %v", c.name, got, c.want)
		}
		if got := len(b.All()); got != 5-len(c.want) {
			t.Errorf("%s: %d wait", c.name, got)
		}
	}
}

// TestServedComesAgain: P6.1, P6.2: who presses behind a service waits behind all others, anew.
func TestServedComesAgain(t *testing.T) {
	b := calls.New(house(9, 3))
	press(t, b, hallUp(3), hallUp(4))
	b.Tick()
	b.Serve(0, 3, true, false)
	press(t, b, hallUp(3))
	waits(t, b, "pressed again", aged(hallUp(4), 1), hallUp(3))
}

// lit is the chapter's words on the lamps.
func lit(all []api.Call, car int) (up, down, in floors.Set) {
	for _, c := range all {
		if c.Car == -1 && c.Up {
			up |= 1 << c.Floor
		}
		if c.Car == -1 && !c.Up {
			down |= 1 << c.Floor
		}
		if c.Car >= 0 && c.Car == car {
			in |= 1 << c.Floor
		}
	}
	return up, down, in
}

// TestLamps: P6.3, and P1 of Lamps; as calls come and go, of all cars and of numbers that are none.
func TestLamps(t *testing.T) {
	for _, s := range []api.Site{house(2, 1), house(9, 3), house(64, 1), house(64, 8)} {
		all := every(s)
		rand.New(rand.NewSource(2)).Shuffle(len(all), func(i, k int) { all[i], all[k] = all[k], all[i] })
		b := calls.New(s)
		for i, c := range all {
			b.Press(c)
			if i%5 == 4 {
				b.Serve(all[i/2].Car, all[i/2].Floor, i%2 == 0, i%3 == 0)
			}
			for _, n := range carNumbers() {
				up, down, in := b.Lamps(n)
				wantUp, wantDown, wantIn := lit(b.All(), n)
				if up != wantUp || down != wantDown || in != wantIn {
					t.Fatalf("the lamps of %d: %x %x %x, not %x %x %x", n, up, down, in, wantUp, wantDown, wantIn)
				}
			}
		}
	}
}

// TestLampsByHand: P6.3, without another reckoning.
func TestLampsByHand(t *testing.T) {
	b := calls.New(house(64, 8))
	press(t, b, hallUp(0), hallUp(62), hallDown(63), hallDown(1), inCar(63, 7), inCar(0, 7), inCar(5, 0))
	for _, c := range []struct {
		car int
		in  floors.Set
	}{
		{7, 1<<63 | 1}, {0, 1 << 5}, {1, 0}, {-1, 0}, {8, 0}, {math.MinInt, 0}, {math.MaxInt, 0},
	} {
		for range 2 {
			if up, down, in := b.Lamps(c.car); up != 1<<62|1 || down != 1<<63|2 || in != c.in {
				t.Errorf("the lamps of %d: %x %x %x", c.car, up, down, in)
			}
		}
	}
}

// spoil overwrites a list, up to all that it has room for.
func spoil(list []api.Call) {
	list = list[:cap(list)]
	for i := range list {
		list[i] = api.Call{Floor: -9, Car: -9, Age: -9}
	}
}

// TestNewMemory: rule 4: answers share nothing with the book, nor with one another.
func TestNewMemory(t *testing.T) {
	s := house(9, 3)
	all := every(s)
	b := calls.New(s)
	press(t, b, all...)
	one, two := b.All(), b.All()
	served := b.Serve(1, 4, true, true)
	keptServed, rest := slices.Clone(served), b.All()
	spoil(one)
	if !slices.Equal(two, all) {
		t.Error("two answers of All share memory, or Serve changed one")
	}
	waits(t, b, "an answer was overwritten", rest...)
	if !slices.Equal(served, keptServed) {
		t.Error("an answer of All and one of Serve share memory")
	}
	spoil(served)
	waits(t, b, "what was served was overwritten", rest...)
	kept := b.All()
	keptRest := slices.Clone(kept)
	b.Tick()
	press(t, b, hallUp(4))
	b.Serve(2, 0, true, true)
	if !slices.Equal(kept, keptRest) {
		t.Error("an answer of All changed with the book")
	}
}

// model is a book by the chapter's words.
type model struct {
	site   api.Site
	list   []api.Call
	barred floors.Set
}

func (m *model) press(c api.Call) api.Errno {
	if e := wrong(m.site, c); e != api.OK {
		return e
	}
	if m.barred>>c.Floor&1 == 1 {
		return api.ErrBarred
	}
	for _, other := range m.list {
		if other.Floor == c.Floor && other.Car == c.Car && other.Up == c.Up {
			return api.OK
		}
	}
	if len(m.list) == 128 {
		return api.ErrFull
	}
	m.list = append(m.list, aged(c, 0))
	return api.OK
}

func (m *model) bar(floor int, barred bool) api.Errno {
	if floor < 0 || floor >= m.site.Floors {
		return api.ErrRange
	}
	m.barred &^= 1 << floor
	if barred {
		m.barred |= 1 << floor
	}
	return api.OK
}

// stroll does something to a model and to two books, and tells whether these answer alike, and as the model does.
func stroll(r *rand.Rand, m *model, one, two *calls.Book) bool {
	floor, n := r.Intn(m.site.Floors+2)-1, r.Intn(m.site.Cars+3)-2
	up, down := r.Intn(2) == 0, r.Intn(2) == 0
	switch r.Intn(24) {
	case 0:
		want := m.bar(floor, up)
		return one.Bar(floor, up) == want && two.Bar(floor, up) == want
	case 1, 2:
		served, rest := split(m.list, n, floor, up, down)
		m.list = rest
		return slices.Equal(one.Serve(n, floor, up, down), served) && slices.Equal(two.Serve(n, floor, up, down), served)
	case 3, 4, 5:
		for i := range m.list {
			m.list[i].Age++
		}
		one.Tick()
		two.Tick()
		return true
	}
	c := api.Call{Floor: floor, Car: n, Up: up, Age: r.Intn(9) - 4}
	want := m.press(c)
	return one.Press(c) == want && two.Press(c) == want
}

// TestStroll: P6.1 to P6.3, and P2: long ways through a book, which is held to a model behind each step, and to a second book.
func TestStroll(t *testing.T) {
	full := 0
	for seed, s := range houses() {
		r := rand.New(rand.NewSource(int64(seed)))
		m, one, two := &model{site: s}, calls.New(s), calls.New(s)
		for step := range 4000 {
			if !stroll(r, m, one, two) {
				t.Fatalf("%d floors, %d cars, step %d: another answer", s.Floors, s.Cars, step)
			}
			if !slices.Equal(one.All(), m.list) || !slices.Equal(two.All(), m.list) {
				t.Fatalf("%d floors, %d cars, step %d: %v wait, not %v", s.Floors, s.Cars, step, one.All(), m.list)
			}
			if one.Barred() != m.barred || two.Barred() != m.barred {
				t.Fatalf("%d floors, %d cars, step %d: %x is barred, not %x", s.Floors, s.Cars, step, one.Barred(), m.barred)
			}
			if len(m.list) == api.MaxCalls {
				full++
			}
		}
	}
	if full == 0 {
		t.Error("no book was ever full")
	}
}

// TestWrongSites: P1: of a site that isn't right nothing is promised but that each call ends, and none panics.
func TestWrongSites(t *testing.T) {
	for _, many := range []int{math.MinInt, -1, 0, 1, 65, 1 << 32, math.MaxInt} {
		b := calls.New(house(many, many))
		for _, floor := range floorNumbers() {
			for _, n := range carNumbers() {
				b.Press(api.Call{Floor: floor, Car: n})
				b.Press(api.Call{Floor: floor, Car: n, Up: true})
				b.Lamps(n)
			}
			b.Bar(floor, true)
			b.Barred()
			b.Tick()
			b.Serve(0, floor, true, true)
			b.All()
		}
	}
}
