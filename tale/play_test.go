package tale_test

import (
	"fmt"
	"math/rand"
	"slices"
	"strings"
	"testing"

	"paternoster/api"
	"paternoster/tale"
	"paternoster/world"
)

// house gives a right site of so many cars, with twelve floors: a way takes 2 ticks, and one for each floor; a door takes 2, 3 and 1; it plans in each tick.
func house(cars int) api.Site {
	return api.Site{Floors: 12, Cars: cars, Start: 1, Step: 1, Stop: 1, Open: 2, Wait: 3, Close: 1, Nudge: 1, Age: 60, Silent: 3, Budget: 200, Period: 1}
}

func start(t *testing.T, s api.Site) *world.World {
	t.Helper()
	w, e := world.New(s)
	if e != api.OK || w == nil {
		t.Fatalf("%+v: %v, %d", s, w, e)
	}
	return w
}

// plays plays lines, and asks for what is answered to each.
func plays(t *testing.T, w *world.World, list [][2]string) {
	t.Helper()
	var script, want []string
	for _, c := range list {
		script, want = append(script, c[0]), append(want, c[1])
	}
	got := tale.Play(w, script)
	if len(got) != len(want) {
		t.Fatalf("%q: %d lines, not %d", got, len(got), len(want))
	}
	for i := range got {
		if got[i] != want[i] {
			t.Errorf("line %d: %q, not %q", i, got[i], want[i])
		}
	}
}

// TestPlay: P18.2; a ride by hand: what a car's text shows of its way, its door, its fault, and how many calls wait.
func TestPlay(t *testing.T) {
	plays(t, start(t, house(2)), [][2]string{
		{"tick", "tick = 0 0 0 #0"},
		{"press 10 -1 1", "press 10 -1 1 = 0"},
		{"tick", "tick = 0 0>10:12 0 #1"},
		{"tick", "tick = 0 0>10:11 0 #1"},
		{"press 0 1 0", "press 0 1 0 = 0"},
		{"tick", "tick = 0 0>10:10 0o2 #2"},
		{"fault 0 1", "fault 0 1 = 0"}, // what has begun goes on
		{"tick", "tick = 0 0>10:9! 0o1 #2"},
		{"tick", "tick = 0 0>10:8! 0O3 #2"},
		{"block 1", "block 1 = 0"},          // the door is held
		{"tick", "tick = 0 0>10:7! 0O3 #1"}, // the report of the open door serves the call
		{"fault 1 1", "fault 1 1 = 0"},
		{"tick", "tick = 0 0>10:6! 0O2! #1"},
		{"fault 0 0", "fault 0 0 = 0"},
		{"tick", "tick = 0 0>10:5 0O1! #1"},
		{"tick", "tick = 0 0>10:4 0c1! #1"},
		{"tick", "tick = 0 0>10:3 0! #1"},
		{"fault 1 0", "fault 1 0 = 0"},
		{"press 11 1 0", "press 11 1 0 = 0"},
		{"tick", "tick = 0 0>10:2 0>11:13 #2"},
		{"tick", "tick = 0 0>10:1 0>11:12 #2"},
		{"tick", "tick = 0 10 0>11:11 #2"},
		{"tick", "tick = 0 10o2 0>11:10 #2"},
		{"tick", "tick = 0 10o1 0>11:9 #2"},
		{"tick", "tick = 0 10O3 0>11:8 #2"},
		{"tick", "tick = 0 10O2 0>11:7 #1"},
		{"press 9 -1 0", "press 9 -1 0 = 0"},
		{"press 9 -1 0", "press 9 -1 0 = 0"}, // pressed twice, still one waits
		{"tick", "tick = 0 10O1 0>11:6 #2"},
		{"tick", "tick = 0 10c1 0>11:5 #2"},
		{"tick", "tick = 0 10 0>11:4 #2"},
		{"tick", "tick = 0 10>9:3 0>11:3 #2"},
	})
}

// TestPlayAllKinds: P18.2; a line of each Kind happens, and what Do answers stands behind it: OK, ErrArg, ErrRange.
func TestPlayAllKinds(t *testing.T) {
	plays(t, start(t, house(3)), [][2]string{
		{"again 1", "again 1 = 2"}, // there was no tick yet
		{"again 0", "again 0 = 2"},
		{"press 4 -1 1", "press 4 -1 1 = 0"},
		{"press 256 -1 1", "press 256 -1 1 = 1"},
		{"press 3 300 1", "press 3 300 1 = 1"},
		{"press 4 -2 1", "press 4 -2 1 = 1"},
		{"press -1 0 0", "press -1 0 0 = 1"},
		{"lose 0", "lose 0 = 0"}, // the car 0 isn't heard of: the car 1 goes
		{"lose 2", "lose 2 = 0"},
		{"lose 3", "lose 3 = 2"},
		{"lose -1", "lose -1 = 2"},
		{"tick", "tick = 0 0 0>4:6 0 #1"},
		{"over 0 1", "over 0 1 = 0"}, // an overloaded car isn't sent
		{"over 3 1", "over 3 1 = 2"},
		{"over -1 0", "over -1 0 = 2"},
		{"press 5 -1 0", "press 5 -1 0 = 0"},
		{"tick", "tick = 0 0 0>4:5 0>5:7 #2"},
		{"over 0 0", "over 0 0 = 0"},
		{"press 1 -1 1", "press 1 -1 1 = 0"},
		{"tick", "tick = 0 0>1:3 0>4:4 0>5:6 #3"},
		{"switch 3 6 1", "switch 3 6 1 = 0"}, // the floor 6 is barred
		{"press 6 0 0", "press 6 0 0 = 0"},
		{"switch 300 0 1", "switch 300 0 1 = 1"},
		{"switch 1 -1 1", "switch 1 -1 1 = 1"},
		{"tick", "tick = 0 0>1:2 0>4:3 0>5:5 #3"},
		{"again 1", "again 1 = 0"},
		{"again 4", "again 4 = 0"},
		{"again 5", "again 5 = 2"},
		{"fault 2 1", "fault 2 1 = 0"},
		{"fault 3 1", "fault 3 1 = 2"},
		{"fault -9223372036854775808 0", "fault -9223372036854775808 0 = 2"},
		{"block 1", "block 1 = 0"}, // a door that is shut isn't held
		{"block 3", "block 3 = 2"},
		{"tick", "tick = 0 0>1:1 0>4:2 0>5:4! #3"},
		{"tick", "tick = 0 1 0>4:1 0>5:3! #3"},
		{"switch 1 0 1", "switch 1 0 1 = 0"}, // a recall
		{"tick", "tick = 0 1>0:3 4 0>5:2! #3"},
		{"tick", "tick = 0 1>0:2 4>0:6 0>5:1! #3"},
		{"switch 1 0 0", "switch 1 0 0 = 0"},
		{"tick", "tick = 0 1>0:1 4>0:5 5! #3"},
	})
}

// TestPlayAgain: P18.2; what comes again brings the press that came with it.
func TestPlayAgain(t *testing.T) {
	plays(t, start(t, house(1)), [][2]string{
		{"press 0 -1 1", "press 0 -1 1 = 0"},
		{"tick", "tick = 0 0o2 #1"},
		{"tick", "tick = 0 0o1 #1"},
		{"tick", "tick = 0 0O3 #1"},
		{"tick", "tick = 0 0O2 #0"},
		{"again 4", "again 4 = 0"},
		{"tick", "tick = 0 0O1 #0"}, // it is served by the report of the same tick
		{"tick", "tick = 0 0c1 #0"},
		{"again 6", "again 6 = 0"},
		{"tick", "tick = 0 0 #1"},
	})
}

// TestPlayOtherTexts: P18.2; what isn't a line is answered by ? form, and nothing happens.
func TestPlayOtherTexts(t *testing.T) {
	w := start(t, house(1))
	plays(t, w, [][2]string{
		{"", "? form"}, {"?", "? form"}, {"? form", "? form"}, {"tick ", "? form"}, {" tick", "? form"}, {"tick 1", "? form"}, {"tick\n", "? form"}, {"tick tick", "? form"},
		{"press 3 -1", "? form"}, {"press 03 -1 1", "? form"}, {"press 3 -1 2", "? form"}, {"fault 0 2", "? form"}, {"lose +0", "? form"}, {"\xff", "? form"}, {"TICK", "? form"},
		{"tick = 0 0 #0", "? form"}, {"press 99999999999999999999 -1 1", "? form"},
	})
	if w.Now() != 0 || w.Cars()[0] != (api.Car{}) || len(w.Group().Calls()) != 0 {
		t.Errorf("%d, %v, %v", w.Now(), w.Cars(), w.Group().Calls())
	}
	plays(t, w, [][2]string{{"tick", "tick = 0 0 #0"}, {"x", "? form"}, {"tick", "tick = 0 0 #0"}})
	if w.Now() != 2 {
		t.Errorf("%d ticks", w.Now())
	}
}

// TestPlayNoLines: P18.2, P1; no lines are answered by none; and so are all, where there is no world.
func TestPlayNoLines(t *testing.T) {
	w := start(t, house(1))
	for _, script := range [][]string{nil, {}} {
		if got := tale.Play(w, script); len(got) != 0 {
			t.Errorf("%q", got)
		}
	}
	if w.Now() != 0 {
		t.Errorf("%d ticks", w.Now())
	}
	for _, none := range []*world.World{nil, {}} {
		for _, script := range [][]string{nil, {"tick"}, {"x", "press 1 -1 1", "again 1"}} {
			if got := tale.Play(none, script); len(got) != 0 {
				t.Errorf("%q", got)
			}
		}
	}
}

// TestPlayManyCars: P18.2; each car has its text, in order, and as many calls as there may be are counted.
func TestPlayManyCars(t *testing.T) {
	s := house(api.MaxCars)
	s.Floors, s.Budget = api.MaxFloors, 1
	script := []string{"fault 3 1", "fault 7 1"}
	for floor := 1; floor < api.MaxFloors; floor++ {
		for _, car := range []int{3, 7, 6} {
			script = append(script, fmt.Sprintf("press %d %d 0", floor, car))
		}
	}
	got := tale.Play(start(t, s), append(script, "tick"))
	cars := strings.Fields(got[len(got)-1])
	if want := []string{"tick", "=", "0", "0", "0", "0", "0!", "0", "0", cars[9], "0!", "#128"}; !slices.Equal(cars, want) || !strings.HasPrefix(cars[9], "0>") {
		t.Errorf("%q", got[len(got)-1])
	}
}

// TestPlayKeepsScript: rule 4; the script isn't changed, and is not what is answered; no two answers are one list.
func TestPlayKeepsScript(t *testing.T) {
	script := []string{"tick", "x", "press 1 -1 1", "lose 9"}
	was := slices.Clone(script)
	w := start(t, house(1))
	first := tale.Play(w, script)
	kept := slices.Clone(first)
	second := tale.Play(w, script)
	if !slices.Equal(script, was) || !slices.Equal(first, kept) {
		t.Errorf("%q, %q", script, first)
	}
	for i := range second {
		second[i] = "changed"
	}
	if !slices.Equal(script, was) || !slices.Equal(first, kept) {
		t.Errorf("%q, %q", script, first)
	}
}

// answer gives what the chapter says that a line is answered by: it lets it happen by Do.
func answer(w *world.World, line string) string {
	e, wrong := model(line)
	if wrong != api.OK {
		return "? form"
	}
	text := fmt.Sprintf("%s = %d", line, w.Do(e))
	if line != "tick" {
		return text
	}
	for _, c := range w.Cars() {
		way := ""
		if c.Ticks > 0 {
			way = fmt.Sprintf(">%d:%d", c.Target, c.Ticks)
		}
		door := [4]string{"", "o", "O", "c"}[c.Door.Phase]
		if door != "" {
			door += fmt.Sprint(c.Door.Left)
		}
		text += fmt.Sprintf(" %d%s%s%s", c.Floor, way, door, map[bool]string{true: "!"}[c.Fault])
	}
	return fmt.Sprintf("%s #%d", text, len(w.Group().Calls()))
}

// anySite gives a right site, with few floors and short times, so that much happens.
func anySite(r *rand.Rand) api.Site {
	return api.Site{
		Floors: 2 + r.Intn(14), Cars: 1 + r.Intn(4),
		Start: r.Intn(3), Step: 1 + r.Intn(2), Stop: r.Intn(3),
		Open: 1 + r.Intn(12), Wait: 1 + r.Intn(12), Close: 1 + r.Intn(3), Nudge: r.Intn(3),
		Age: 1 + r.Intn(60), Silent: 1 + r.Intn(6), Budget: 1 + r.Intn(40), Period: 1 + r.Intn(7),
	}
}

// anyHappens gives a line, mostly one that may be, and mostly of what there is.
func anyHappens(r *rand.Rand, s api.Site) string {
	car, on := r.Intn(s.Cars+1), r.Intn(2)
	switch r.Intn(20) {
	case 0:
		return fmt.Sprintf("press %d -1 %d", r.Intn(s.Floors+1), on)
	case 1:
		return fmt.Sprintf("press %d %d %d", r.Intn(s.Floors+1)*(1+r.Intn(30)), car, on) // some are beyond a frame's bounds
	case 2:
		return fmt.Sprintf("switch %d %d %d", r.Intn(5), r.Intn(s.Floors+1), on*r.Intn(2))
	case 3:
		return fmt.Sprintf("%s %d", []string{"lose", "again"}[on], r.Intn(s.Cars+2))
	case 4, 5:
		return fmt.Sprintf("block %d", car)
	case 6:
		return fmt.Sprintf("%s %d %d", []string{"fault", "over"}[on], car, r.Intn(2))
	case 7:
		return anyLine(r)
	}
	return "tick"
}

// TestPlayAgainstModel: P18.2, P1 and P2; scripts played in pieces, and at once, each line held to the model.
func TestPlayAgainstModel(t *testing.T) {
	r := rand.New(rand.NewSource(182))
	seen := map[string]int{}
	for range 60 {
		s := anySite(r)
		script := make([]string, 400)
		for i := range script {
			script[i] = anyHappens(r, s)
		}
		byHand, pieces := start(t, s), start(t, s)
		var got []string
		for at := 0; at < len(script); {
			end := min(at+r.Intn(9), len(script))
			got = append(got, tale.Play(pieces, script[at:end])...)
			at = end
		}
		if once := tale.Play(start(t, s), script); !slices.Equal(got, once) {
			t.Fatalf("%+v: in pieces %q, at once %q", s, got, once)
		}
		for i, line := range script {
			if want := answer(byHand, line); got[i] != want {
				t.Fatalf("%+v: line %d of %q: %q, not %q", s, i, script, got[i], want)
			}
			count(seen, got[i])
		}
	}
	for _, c := range []string{">", "o", "O", "c", "!", "> !", "o !", "O !", "c !", "#0", "# more", "= 1", "= 2", "? form"} {
		if seen[c] < 20 {
			t.Errorf("%q was seen %d times", c, seen[c])
		}
	}
}

// count counts what an answer shows, so that a run in which little happens is told.
func count(seen map[string]int, text string) {
	words := strings.Fields(text)
	last := words[len(words)-1]
	switch {
	case text == "? form":
		seen["? form"]++
		return
	case words[0] != "tick":
		seen["= "+last]++
		return
	case last == "#0":
		seen["#0"]++
	default:
		seen["# more"]++
	}
	for _, car := range words[3 : len(words)-1] {
		for _, mark := range []string{">", "o", "O", "c", "!"} {
			if strings.Contains(car, mark) {
				seen[mark]++
				if strings.HasSuffix(car, "!") {
					seen[mark+" !"]++
				}
			}
		}
	}
}
