package run

import (
	"barograph/api"
	"barograph/vm"
)

// thread: a thread of a valid machine. Between two calls its embedded thread has ended.
type thread struct {
	vm.Thread
	number int
	calls  []api.Call
	begun  int // the number of calls that have begun
}

// perform does one step of the thread. It returns what happened, with the number of the step left to the caller.
func (t *thread) perform(codes [][]api.Op, words []int) []api.Event {
	var events []api.Event
	if t.Ended() {
		if t.begun == len(t.calls) {
			return nil
		}
		t.begin(codes)
		events = append(events, t.event())
	}
	e := t.Step(words)
	if t.Ended() {
		event := t.event()
		event.End, event.Code, event.Told = true, e, t.Told()
		events = append(events, event)
	}
	return events
}

func (t *thread) begin(codes [][]api.Op) {
	call := t.calls[t.begun]
	// There is no error: the calls of a valid machine are valid.
	t.Thread, _ = vm.Begin(codes[call.Code], call.Args)
	t.begun++
}

// event: of the call that has begun last.
func (t *thread) event() api.Event {
	return api.Event{Thread: t.number, Call: t.begun - 1}
}
