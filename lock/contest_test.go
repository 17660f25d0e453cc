package lock

import (
	"fmt"
	"slices"
	"testing"

	"barograph/api"
	"barograph/run"
	"barograph/trial"
)

// The codes of a contest: those of the lock, and others.
const (
	enter   = iota
	leave   // releases it
	count   // adds 1 to a word behind those of the lock, not at once
	fail    // ends with an error
	nothing // has no instructions
)

// contest: a machine with a lock, and a schedule that grows.
type contest struct {
	trial.Trial
}

// newContest: with a lock for so many threads.
func newContest(t *testing.T, threads int, calls ...[]api.Call) *contest {
	t.Helper()
	words, d := Words(threads)
	in, e := Enter(threads)
	out, f := Leave(threads)
	if d != api.OK || e != api.OK || f != api.OK {
		t.Fatalf("%d threads: the errors %d, %d, %d", threads, d, e, f)
	}
	counted := len(words)
	counting := []api.Op{
		{Kind: api.Set, A: 1, B: 1}, {Kind: api.Load, A: 0, B: 2, C: counted}, {Kind: api.Add, A: 0, B: 0, C: 1},
		{Kind: api.Store, A: 0, B: 2, C: counted},
	}
	failing := []api.Op{{Kind: api.Store, A: 0, B: 0, C: -1}}
	return &contest{trial.Trial{Machine: api.Machine{
		Words: append(words, 0), Codes: [][]api.Op{enter: in, leave: out, count: counting, fail: failing, nothing: nil}, Threads: calls,
	}}}
}

// rounds: a thread enters and leaves so often, with calls of these codes in between.
func rounds(thread, k int, between ...int) []api.Call {
	var l []api.Call
	for range k {
		l = append(l, api.Call{Code: enter, Args: []int{thread}})
		for _, code := range between {
			l = append(l, api.Call{Code: code})
		}
		l = append(l, api.Call{Code: leave, Args: []int{thread}})
	}
	return l
}

// all: rounds of each of the threads.
func all(threads, k int, between ...int) [][]api.Call {
	var l [][]api.Call
	for thread := range threads {
		l = append(l, rounds(thread, k, between...))
	}
	return l
}

// stay: the steps in which a thread is inside, the first and the last one.
type stay struct {
	thread, first, last int
}

// stays returns those with at least one step, in the order in which their Enters ended. A thread that has not begun to
// leave is inside up to the end of the schedule.
func (x *contest) stays(events []api.Event) []stay {
	var l []stay
	for _, e := range events {
		switch code := x.Threads[e.Thread][e.Call].Code; {
		case code == enter && e.End:
			l = append(l, stay{e.Thread, e.Step + 1, len(x.Schedule) - 1})
		case code == leave && !e.End:
			for i := range l {
				if l[i].thread == e.Thread {
					l[i].last = min(l[i].last, e.Step-1)
				}
			}
		}
	}
	return slices.DeleteFunc(l, func(s stay) bool { return s.first > s.last })
}

// wrong says what contradicts P11.2, or nothing.
func (x *contest) wrong(events []api.Event, counted int) string {
	begun, ended := 0, 0
	for _, e := range events {
		code := x.Threads[e.Thread][e.Call].Code
		if (code == enter || code == leave) && (e.Code != api.OK || len(e.Told) > 0) {
			return fmt.Sprintf("call %d of thread %d: %v", e.Call, e.Thread, e)
		}
		if code == count && e.End {
			ended++
		} else if code == count {
			begun++
		}
	}
	stays := x.stays(events)
	for i := 1; i < len(stays); i++ {
		if stays[i].first <= stays[i-1].last {
			return fmt.Sprint("two are inside: ", stays[i-1:i+1])
		}
	}
	if counted < ended || counted > begun {
		return fmt.Sprintf("counted %d, between %d and %d calls", counted, ended, begun)
	}
	return ""
}

// wantGood plays the machine, examines the events, and returns how many calls of Leave have ended.
func (x *contest) wantGood(t *testing.T, name string) int {
	t.Helper()
	events, words, e := run.Play(x.Machine, x.Schedule)
	if e != api.OK {
		t.Fatalf("%s: Play = %d", name, e)
	}
	if text := x.wrong(events, words[len(words)-1]); text != "" {
		t.Fatalf("%s: %s, in %v, under %v", name, text, events, x.Schedule)
	}
	left := 0
	for _, e := range events {
		if e.End && x.Threads[e.Thread][e.Call].Code == leave {
			left++
		}
	}
	return left
}

// wantSome: a test in which hardly any call ends says little.
func wantSome(t *testing.T, left, most int) {
	t.Helper()
	if left < most/4 {
		t.Errorf("only %d of %d calls of Leave have ended", left, most)
	}
}

// What has to be found is found.
func TestWrong(t *testing.T) {
	begin := func(step, thread, call int) api.Event { return api.Event{Step: step, Thread: thread, Call: call} }
	end := func(step, thread, call int) api.Event {
		return api.Event{Step: step, Thread: thread, Call: call, End: true}
	}
	failed := func(e api.Event) api.Event { e.Code = api.ErrRange; return e }
	telling := func(e api.Event) api.Event { e.Told = []int{0}; return e }
	// The calls are: 0 Enter, 1 count, 2 fail, 3 Leave, and again.
	for _, c := range []struct {
		name    string
		good    bool
		counted int
		events  []api.Event
	}{
		{"nothing", true, 0, nil},
		{"one inside", true, 0, []api.Event{end(3, 0, 0)}},
		{"two inside", false, 0, []api.Event{end(3, 0, 0), end(6, 1, 0)}},
		{"two inside in the last step", false, 0, []api.Event{end(3, 0, 0), end(48, 1, 0)}},
		{"not yet inside", true, 0, []api.Event{end(3, 0, 0), end(49, 1, 0)}},
		{"one after the other", true, 0, []api.Event{end(3, 0, 0), begin(5, 0, 3), end(5, 1, 0)}},
		{"at the same time", false, 0, []api.Event{end(3, 0, 0), end(4, 1, 0), begin(6, 0, 3)}},
		{"in no step", true, 0, []api.Event{end(3, 0, 0), end(4, 1, 0), begin(5, 0, 3)}},
		{"inside again", false, 0, []api.Event{end(3, 0, 0), begin(5, 0, 3), end(5, 1, 0), end(9, 0, 4)}},
		{"again one after the other", true, 0, []api.Event{end(3, 0, 0), begin(5, 0, 3), end(5, 1, 0), begin(9, 1, 3), end(9, 0, 4)}},
		{"Enter fails", false, 0, []api.Event{failed(end(3, 0, 0))}},
		{"Leave fails", false, 0, []api.Event{end(3, 0, 0), begin(4, 0, 3), failed(end(5, 0, 3))}},
		{"another code fails", true, 0, []api.Event{end(3, 0, 0), failed(end(5, 0, 2))}},
		{"Leave tells something", false, 0, []api.Event{end(3, 0, 0), begin(4, 0, 3), telling(end(5, 0, 3))}},
		{"not counted yet", true, 0, []api.Event{begin(4, 0, 1)}},
		{"counted already", true, 1, []api.Event{begin(4, 0, 1)}},
		{"counted", true, 1, []api.Event{begin(4, 0, 1), end(7, 0, 1)}},
		{"not counted", false, 0, []api.Event{begin(4, 0, 1), end(7, 0, 1)}},
		{"counted too often", false, 2, []api.Event{begin(4, 0, 1), end(7, 0, 1)}},
	} {
		x := newContest(t, 2, all(2, 2, count, fail)...)
		x.Steps(0, 50)
		if text := x.wrong(c.events, c.counted); (text == "") != c.good {
			t.Errorf("%s: %q", c.name, text)
		}
	}
}
