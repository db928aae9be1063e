package tale

import "paternoster/api"

// most is how many numbers a line has at most.
const most = 3

// word gives the word of a kind of events, with which their lines begin.
func word(kind int) string {
	switch kind {
	case api.EvPress:
		return "press"
	case api.EvSwitch:
		return "switch"
	case api.EvLose:
		return "lose"
	case api.EvAgain:
		return "again"
	case api.EvBlock:
		return "block"
	case api.EvFault:
		return "fault"
	case api.EvOver:
		return "over"
	case api.EvTick:
		return "tick"
	}
	return "?"
}

// numbers gives the numbers of an event's line.
func numbers(e api.Event) []int {
	switch e.Kind {
	case api.EvPress:
		return []int{e.Call.Floor, e.Call.Car, number(e.Call.Up)}
	case api.EvSwitch:
		return []int{e.A, e.B, number(e.On)}
	case api.EvLose, api.EvAgain, api.EvBlock:
		return []int{e.A}
	case api.EvFault, api.EvOver:
		return []int{e.A, number(e.On)}
	}
	return nil
}

// event gives the event of a kind whose line has these numbers, as far as it has so many.
func event(kind int, told [most]int) api.Event {
	e := api.Event{Kind: kind}
	switch kind {
	case api.EvPress:
		e.Call = api.Call{Floor: told[0], Car: told[1], Up: told[2] == 1}
	case api.EvSwitch:
		e.A, e.B, e.On = told[0], told[1], told[2] == 1
	case api.EvLose, api.EvAgain, api.EvBlock:
		e.A = told[0]
	case api.EvFault, api.EvOver:
		e.A, e.On = told[0], told[1] == 1
	}
	return e
}

// number gives 1 for what is so, and 0 for what isn't.
func number(so bool) int {
	if so {
		return 1
	}
	return 0
}
