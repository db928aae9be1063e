package tale_test

import (
	"fmt"
	"math"
	"math/rand"
	"regexp"
	"slices"
	"strconv"
	"strings"
	"testing"

	"paternoster/api"
	"paternoster/tale"
)

// told has events with nothing in them but what their lines tell, each with its line.
var told = []struct {
	line string
	e    api.Event
}{
	{"press 3 -1 1", api.Event{Kind: api.EvPress, Call: api.Call{Floor: 3, Car: -1, Up: true}}},
	{"press 3 -1 0", api.Event{Kind: api.EvPress, Call: api.Call{Floor: 3, Car: -1}}},
	{"press 0 7 0", api.Event{Kind: api.EvPress, Call: api.Call{Car: 7}}},
	{"press 0 0 0", api.Event{Kind: api.EvPress}},
	{"press -10 105 1", api.Event{Kind: api.EvPress, Call: api.Call{Floor: -10, Car: 105, Up: true}}},
	{"press 9223372036854775807 -9223372036854775808 0", api.Event{Kind: api.EvPress, Call: api.Call{Floor: math.MaxInt, Car: math.MinInt}}},
	{"switch 1 0 1", api.Event{Kind: api.EvSwitch, A: api.SwitchRecall, On: true}},
	{"switch 2 4 0", api.Event{Kind: api.EvSwitch, A: api.SwitchOut, B: 4}},
	{"switch 0 0 0", api.Event{Kind: api.EvSwitch}},
	{"switch -9223372036854775808 9223372036854775807 1", api.Event{Kind: api.EvSwitch, A: math.MinInt, B: math.MaxInt, On: true}},
	{"lose 0", api.Event{Kind: api.EvLose}},
	{"lose 2", api.Event{Kind: api.EvLose, A: 2}},
	{"again 1", api.Event{Kind: api.EvAgain, A: 1}},
	{"again -5", api.Event{Kind: api.EvAgain, A: -5}},
	{"again 1000000", api.Event{Kind: api.EvAgain, A: 1000000}},
	{"block 1", api.Event{Kind: api.EvBlock, A: 1}},
	{"block -9223372036854775808", api.Event{Kind: api.EvBlock, A: math.MinInt}},
	{"fault 3 1", api.Event{Kind: api.EvFault, A: 3, On: true}},
	{"fault 3 0", api.Event{Kind: api.EvFault, A: 3}},
	{"over 10 1", api.Event{Kind: api.EvOver, A: 10, On: true}},
	{"over -1 0", api.Event{Kind: api.EvOver, A: -1}},
	{"tick", api.Event{Kind: api.EvTick}},
}

// TestLine: P18.1; the line of events of each Kind, at the edges of their numbers too.
func TestLine(t *testing.T) {
	for _, c := range told {
		if got := tale.Line(c.e); got != c.line {
			t.Errorf("%+v: %q, not %q", c.e, got, c.line)
		}
	}
}

// TestLineOfMore: P18.1; a line tells what its Kind's lines tell, whatever else the event has.
func TestLineOfMore(t *testing.T) {
	full := api.Event{A: 4, B: 5, On: true, Call: api.Call{Floor: 6, Car: 7, Age: 8, Up: true}}
	for kind, want := range map[int]string{
		api.EvPress:  "press 6 7 1",
		api.EvSwitch: "switch 4 5 1",
		api.EvLose:   "lose 4",
		api.EvAgain:  "again 4",
		api.EvBlock:  "block 4",
		api.EvFault:  "fault 4 1",
		api.EvOver:   "over 4 1",
		api.EvTick:   "tick",
	} {
		full.Kind = kind
		if got := tale.Line(full); got != want {
			t.Errorf("kind %d: %q, not %q", kind, got, want)
		}
	}
}

// TestLineOfOtherKinds: P18.1; an event of another Kind is ?, whatever it has.
func TestLineOfOtherKinds(t *testing.T) {
	for _, kind := range []int{0, 9, -1, 10, 255, 256, 257, 264, 1 << 32, 1<<32 + 8, math.MinInt, math.MaxInt} {
		for _, e := range []api.Event{{Kind: kind}, {Kind: kind, A: 4, B: 5, On: true, Call: api.Call{Floor: 6, Car: 7, Age: 8, Up: true}}} {
			if got := tale.Line(e); got != "?" {
				t.Errorf("%+v: %q", e, got)
			}
		}
	}
}

// TestRead: P18.1; the event of each line, with nothing else in it.
func TestRead(t *testing.T) {
	for _, c := range told {
		if e, wrong := tale.Read(c.line); wrong != api.OK || e != c.e {
			t.Errorf("%q: %+v, %d, not %+v", c.line, e, wrong, c.e)
		}
	}
}

// isWrong asks whether a text isn't a line: ErrForm, and nothing beside it.
func isWrong(t *testing.T, s string) {
	t.Helper()
	if e, wrong := tale.Read(s); wrong != api.ErrForm || e != (api.Event{}) {
		t.Errorf("%q: %+v, %d", s, e, wrong)
	}
}

// TestReadOtherTexts: P18.1, P1; texts that aren't lines.
func TestReadOtherTexts(t *testing.T) {
	for _, s := range []string{
		"", " ", "  ", "?", "? 1", "? form", "x", "0", "1", "-1 1", "\x00", "\xff\xfe", "\n", "#0",
		"tick ", " tick", "tick\n", "\ttick", "tick\x00", "Tick", "TICK", "tic", "ticks", "tick 0", "tick 1", "tick tick", "tick = 0",
		"tick 0 0 0", "tick 0 0 0 0", "8", "Line", "press", "switch", "lose", "again", "block", "fault", "over",
		"press ", "press 3", "press 3 -1", "press 3 -1 ", "press 3 -1 2", "press 3 -1 -1", "press 3 -1 1 ", "press 3 -1 1 0", "press 3 -1 1 x", "press 3 -1 1 0 0 0 0",
		"press  3 -1 1", "press 3  -1 1", "press 3 -1  1", " press 3 -1 1", "press\t3 -1 1", "press 3\t-1 1", "press 3,-1,1", "press 3 -1 1\n", "press 3 -1 1\r", "press\u00a03 -1 1",
		"press 3 -1 true", "press 3 -1 01", "press 3 -1 +1", "press 3 -1 -0", "press 3 -1 00", "press 03 -1 1", "press +3 -1 1", "press 3 -01 1", "press 3 --1 1", "press 3 - 1", "press -0 -1 1", "press 3 −1 1", "press ٣ -1 1", "press 3 -1 １",
		"switch 1 0", "switch 1 0 2", "switch 1 0 -1", "switch 1 0 1 1", "switch 1 -0 1", "switch 01 0 1", "switch 1 0 0x1", "switch 1",
		"lose x", "lose +2", "lose 02", "lose -", "lose --2", "lose -02", "lose 2.", "lose 2.0", "lose 2e0", "lose 0x2", "lose 1_0", "lose 2 2", "lose 2 ", "lose  2", "lose2", "losing 2", "lose 2\x00", "loſe 2",
		"lose 9223372036854775808", "lose -9223372036854775809", "lose 18446744073709551616", "lose 18446744073709551618", "lose 99999999999999999999999999", "lose -99999999999999999999999999",
		"again", "again 1 1", "again one", "block 1 1", "block 0 0", "block -0", "block 1;",
		"fault 1", "fault 1 2", "fault 1 -1", "fault 1 1 1", "fault 1 1 0", "fault  1", "fault 1 ", "fault 1 01", "over 1", "over 1 2", "over 1 1 1", "over 0 00", "Over 1 1",
	} {
		isWrong(t, s)
	}
}

// TestReadWrongShapes: P18.1; each line with a blank, a nought, a sign, a word more at any place, or a word less.
func TestReadWrongShapes(t *testing.T) {
	for _, c := range told {
		words := strings.Split(c.line, " ")
		for i := range words {
			isWrong(t, strings.Join(slices.Insert(slices.Clone(words), i, ""), " "))
			isWrong(t, strings.Join(slices.Insert(slices.Clone(words), i, "0"), " "))
			for _, ahead := range []string{"0", "+", "--", "-0", "0x", "x", "\x00", "\t"} {
				changed := slices.Clone(words)
				changed[i] = ahead + changed[i]
				isWrong(t, strings.Join(changed, " "))
			}
			isWrong(t, strings.Join(slices.Delete(slices.Clone(words), i, i+1), " "))
		}
		isWrong(t, c.line+" ")
		isWrong(t, c.line+" 0")
		isWrong(t, c.line+" 1 0 0 0 0 0 0")
		isWrong(t, c.line+"\n"+c.line)
		isWrong(t, strings.ToUpper(c.line))
	}
}

// TestReadLongTexts: P18.1, P1; texts of many words, or of one great word, end.
func TestReadLongTexts(t *testing.T) {
	const many = 1 << 22
	for _, s := range []string{
		strings.Repeat(" ", many), "tick" + strings.Repeat(" ", many), "press" + strings.Repeat(" 0", many), "over 0 " + strings.Repeat("0", many),
		"lose " + strings.Repeat("0", many) + "2", "lose -" + strings.Repeat("9", many), strings.Repeat("press", many), "press 0 0 0" + strings.Repeat("\x00", many),
	} {
		if e, wrong := tale.Read(s); wrong != api.ErrForm || e != (api.Event{}) {
			t.Errorf("%q..: %+v, %d", s[:20], e, wrong)
		}
	}
}

// formed is the form of a line: by this the tests tell on their own whether a text is one. N is a number.
var formed = regexp.MustCompile(strings.ReplaceAll(`\A(?:tick|(?:lose|again|block) N|(?:fault|over) N [01]|(?:press|switch) N N [01])\z`, "N", `(?:0|-?[1-9][0-9]*)`))

// model gives the event of a line, by its words alone.
func model(s string) (api.Event, api.Errno) {
	if !formed.MatchString(s) {
		return api.Event{}, api.ErrForm
	}
	var n []int
	words := strings.Fields(s)
	for _, w := range words[1:] {
		number, err := strconv.ParseInt(w, 10, strconv.IntSize)
		if err != nil {
			return api.Event{}, api.ErrForm // more than the number of any event
		}
		n = append(n, int(number))
	}
	on := len(n) > 1 && n[len(n)-1] == 1
	switch words[0] {
	case "press":
		return api.Event{Kind: 1, Call: api.Call{Floor: n[0], Car: n[1], Up: on}}, api.OK
	case "switch":
		return api.Event{Kind: 2, A: n[0], B: n[1], On: on}, api.OK
	case "tick":
		return api.Event{Kind: 8}, api.OK
	}
	kind := 3 + slices.Index([]string{"lose", "again", "block", "fault", "over"}, words[0])
	return api.Event{Kind: kind, A: n[0], On: on}, api.OK
}

// anyLine gives a text that is mostly nearly a line.
func anyLine(r *rand.Rand) string {
	kinds := []string{"press", "switch", "lose", "again", "block", "fault", "over", "tick", "?", ""}
	pieces := []string{"0", "1", "-1", "2", "10", "-25", "9223372036854775807", "9223372036854775808", "-9223372036854775808", "-9223372036854775809", "01", "-0", "+1", "", "x", "-", "1_0"}
	words := []string{kinds[r.Intn(len(kinds))]}
	for range r.Intn(5) {
		n := len(pieces)
		if r.Intn(3) > 0 {
			n = 9 // mostly such as may be
		}
		if r.Intn(2) == 0 {
			n = 2
		}
		words = append(words, pieces[r.Intn(n)])
	}
	text := strings.Join(words, " ")
	if r.Intn(8) == 0 {
		at := r.Intn(len(text) + 1)
		text = text[:at] + string([]byte{" 019-+ \t\n\x00\xffx"[r.Intn(12)]}) + text[at:]
	}
	return text
}

// TestReadAgainstModel: P18.1, P1 and P2; texts of all kinds, each held to the model, and to Line.
func TestReadAgainstModel(t *testing.T) {
	r := rand.New(rand.NewSource(18))
	right := map[int]int{}
	for range 300000 {
		s := anyLine(r)
		e, wrong := tale.Read(s)
		want, wantWrong := model(s)
		if e != want || wrong != wantWrong {
			t.Fatalf("%q: %+v, %d, not %+v, %d", s, e, wrong, want, wantWrong)
		}
		if again, code := tale.Read(s); again != e || code != wrong {
			t.Fatalf("%q: %+v, %d; and then %+v, %d", s, e, wrong, again, code)
		}
		if (tale.Line(e) == s) != (wrong == api.OK) && s != "?" {
			t.Fatalf("%q: %d, but its event's line is %q", s, wrong, tale.Line(e))
		}
		right[e.Kind]++
	}
	for kind := range 9 {
		if right[kind] < 1000 {
			t.Errorf("of the kind %d there were %d alone", kind, right[kind])
		}
	}
}

// anyNumber gives a number of any size.
func anyNumber(r *rand.Rand) int {
	list := []int{0, 1, -1, 9, 10, -10, 255, 256, 1 << 31, -1 << 31, 1 << 40, math.MaxInt, math.MinInt, math.MaxInt - 1, math.MinInt + 1}
	if r.Intn(3) == 0 {
		return int(r.Uint64()) >> r.Intn(64)
	}
	return list[r.Intn(len(list))]
}

// TestReadOfLine: P18.1; any event's line is made by its form, and read it gives what the line tells, and no more.
func TestReadOfLine(t *testing.T) {
	r := rand.New(rand.NewSource(181))
	for range 100000 {
		full := api.Event{Kind: 1 + r.Intn(8), A: anyNumber(r), B: anyNumber(r), On: r.Intn(2) == 0}
		full.Call = api.Call{Floor: anyNumber(r), Car: anyNumber(r), Age: anyNumber(r), Up: r.Intn(2) == 0}
		bit := map[bool]int{true: 1}
		c := full.Call
		lines := []string{
			fmt.Sprintf("press %d %d %d", c.Floor, c.Car, bit[c.Up]),
			fmt.Sprintf("switch %d %d %d", full.A, full.B, bit[full.On]),
			fmt.Sprintf("lose %d", full.A), fmt.Sprintf("again %d", full.A), fmt.Sprintf("block %d", full.A),
			fmt.Sprintf("fault %d %d", full.A, bit[full.On]), fmt.Sprintf("over %d %d", full.A, bit[full.On]),
			"tick",
		}
		line := tale.Line(full)
		if line != lines[full.Kind-1] {
			t.Fatalf("%+v: %q, not %q", full, line, lines[full.Kind-1])
		}
		want, _ := model(line)
		if e, wrong := tale.Read(line); wrong != api.OK || e != want || tale.Line(e) != line {
			t.Fatalf("%q: %+v, %d, not %+v", line, e, wrong, want)
		}
	}
}
