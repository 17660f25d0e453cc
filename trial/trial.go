// Package trial plays machines of package run under schedules that grow, and tells what the calls have come to. The
// tests of packages whose codes such a machine executes use it.
package trial

import (
	"slices"

	"barograph/api"
	"barograph/run"
)

// Trial: a machine, and a schedule to which steps are appended.
type Trial struct {
	api.Machine
	Schedule []int
}

// Open: the End of a call that has not ended.
const Open = -1

// Call: of a run.
type Call struct {
	api.Call
	Thread     int
	Number     int // among the calls of the thread
	Begin, End int // steps of the schedule
	Told       []int
	Failed     api.Errno
	Steps      int // those that the thread has executed in the call
	Alone      int // most of them during which no other thread has executed any
}

// Ended reports whether the call has ended.
func (c Call) Ended() bool {
	return c.End != Open
}

// Steps lets a thread perform so many steps.
func (x *Trial) Steps(thread, count int) {
	x.Schedule = append(x.Schedule, slices.Repeat([]int{thread}, count)...)
}

// Turns lets these threads perform so many steps each, in turn.
func (x *Trial) Turns(count int, threads ...int) {
	x.Schedule = append(x.Schedule, slices.Repeat(threads, count)...)
}

// Others returns all threads but these, in order.
func (x *Trial) Others(threads ...int) []int {
	var l []int
	for i := range x.Threads {
		if !slices.Contains(threads, i) {
			l = append(l, i)
		}
	}
	return l
}

// Calls plays the machine and returns the calls in the order in which they began, and the shared words at the end. The
// error is that of run.Play.
func (x *Trial) Calls() ([]Call, []int, api.Errno) {
	events, words, e := run.Play(x.Machine, x.Schedule)
	if e != api.OK {
		return nil, nil, e
	}
	var calls []Call
	within := map[int]int{} // the call that a thread is within
	last := Open            // the thread that has executed the last step
	row := 0                // so many steps of its call, one behind the other
	for step, thread := range x.Schedule {
		for ; len(events) > 0 && events[0].Step == step && !events[0].End; events = events[1:] {
			within[thread] = len(calls)
			number := events[0].Call
			calls = append(calls, Call{Call: x.Threads[thread][number], Thread: thread, Number: number, Begin: step, End: Open})
			row = 0
		}
		i, executes := within[thread]
		if !executes {
			continue
		}
		if thread != last {
			last, row = thread, 0
		}
		row++
		c := &calls[i]
		c.Steps++
		c.Alone = max(c.Alone, row)
		for ; len(events) > 0 && events[0].Step == step; events = events[1:] {
			c.End, c.Told, c.Failed = step, events[0].Told, events[0].Code
			delete(within, thread)
		}
	}
	return calls, words, api.OK
}
