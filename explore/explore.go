// Package explore finds all states that a machine of package run can reach under all schedules. The tests of packages
// whose codes such a machine executes use it.
//
// Other threads cannot see when a thread executes an instruction that accesses no shared word. Hence a thread executes
// these together with the access behind them, and what a call has to do after its last access together with this one.
// So a call begins as late as possible and ends as early as possible: whatever does not overlap under some schedule does
// not overlap here. And a call in progress has as many steps before it as possible: if it ends soon enough from all
// states, it does so from wherever a schedule leads.
package explore

import (
	"slices"

	"barograph/api"
	"barograph/vm"
)

// Search: what is explored. States in which something else has been noted are different states, and so are those in
// which calls have had other numbers of steps if Steps limits these.
type Search[Notes comparable] struct {
	Machine api.Machine // a valid one
	Again   bool        // a thread that has ended its last call begins with its first one again
	Alone   int         // if it is not 0: from every state, each thread ends its call in so many steps if it runs alone
	Steps   int         // if it is not 0: each call ends in so many steps of its thread, whatever the other threads do
	Most    int         // the search ends when it has visited so many states
	// Note is called with each event, whose Step is 0. It returns the new notes, and whether this event may occur.
	Note func(notes Notes, event api.Event) (Notes, bool)
}

// Result: of a search.
type Result struct {
	States int  // the number of states that have been visited
	All    bool // these are all that can be reached
	// Wrong is a schedule, if there is one, that leads to an event that may not occur, or to the last of Alone or Steps
	// steps of a call that has not ended then.
	Wrong []int
}

// state: of a machine, and what has been noted.
type state[Notes comparable] struct {
	words   []int
	threads []thread
	notes   Notes
}

// thread: of a state. Between two calls, its embedded thread is the zero value.
type thread struct {
	vm.Thread
	within bool
	call   int // the one that has begun last, or begins next
	steps  int // those in the call up to now, if there is a limit; else the states would differ in them for nothing
}

// origin: how a state has been reached first: from which one, by so many steps of which thread.
type origin struct {
	from, thread, steps int
}

// Run explores the machine. The first state has these notes.
func (s Search[Notes]) Run(notes Notes) Result {
	first := state[Notes]{s.Machine.Words, make([]thread, len(s.Machine.Threads)), notes}
	visited := map[identity[Notes]]bool{first.identity(): true}
	origins := []origin{{}}
	waiting := []state[Notes]{first}
	for from := 0; len(waiting) > 0; from++ {
		now := waiting[0]
		waiting = waiting[1:]
		for i := range now.threads {
			if !s.endsAlone(now.clone(), i) {
				return Result{States: len(visited), Wrong: schedule(origins, origin{from, i, s.Alone})}
			}
			next := now.clone()
			steps, good := s.advance(&next, i)
			if !good {
				return Result{States: len(visited), Wrong: schedule(origins, origin{from, i, steps})}
			}
			if id := next.identity(); !visited[id] {
				visited[id] = true
				origins = append(origins, origin{from, i, steps})
				waiting = append(waiting, next)
			}
		}
		if len(visited) >= s.Most {
			return Result{States: len(visited)}
		}
	}
	return Result{States: len(visited), All: true}
}

// advance lets a thread go on until it has accessed a shared word and will do so again, or its call ends or has taken
// all the steps that it may. It returns the number of steps, which is 0 if there is no call to begin, and whether all
// events may occur and the call has ended in time.
func (s Search[Notes]) advance(w *state[Notes], i int) (steps int, good bool) {
	t := &w.threads[i]
	good = true
	note := func(event api.Event) {
		event.Thread, event.Call = i, t.call
		var may bool
		w.notes, may = s.Note(w.notes, event)
		good = good && may
	}
	calls := s.Machine.Threads[i]
	if !t.within {
		if t.call == len(calls) {
			return 0, true
		}
		t.begin(s.Machine.Codes, calls[t.call])
		note(api.Event{})
	}
	code := s.Machine.Codes[calls[t.call].Code]
	// The limit is for a code that does not come to an access any more.
	for steps < api.MaxSteps {
		accessed := accesses(code, &t.Thread)
		e := t.Step(w.words)
		steps++
		if t.Ended() {
			note(api.Event{End: true, Code: e, Told: t.Told()})
			t.end(len(calls), s.Again)
			return steps, good
		}
		if s.tooLong(t) {
			return steps, false
		}
		if accessed && !ends(code, t.Thread) {
			return steps, good
		}
	}
	return steps, good
}

// tooLong counts a step of a call that has not ended, and reports whether it should have.
func (s Search[Notes]) tooLong(t *thread) bool {
	if s.Steps == 0 {
		return false
	}
	t.steps++
	return t.steps == s.Steps
}

// endsAlone: the thread ends its call, or the one that it begins, in as many steps as it may take alone.
func (s Search[Notes]) endsAlone(w state[Notes], i int) bool {
	t := &w.threads[i]
	calls := s.Machine.Threads[i]
	if s.Alone == 0 || t.call == len(calls) {
		return true
	}
	if !t.within {
		t.begin(s.Machine.Codes, calls[t.call])
	}
	for range s.Alone {
		t.Step(w.words)
		if t.Ended() {
			return true
		}
	}
	return false
}

func (t *thread) begin(codes [][]api.Op, call api.Call) {
	// There is no error: the calls of a valid machine are valid.
	t.Thread, _ = vm.Begin(codes[call.Code], call.Args)
	t.within = true
}

func (t *thread) end(calls int, again bool) {
	*t = thread{call: t.call + 1}
	if again {
		t.call %= calls
	}
}

// accesses: the instruction that is executed next, if there is one, is one that accesses a shared word.
func accesses(code []api.Op, t *vm.Thread) bool {
	if t.Ended() {
		return false
	}
	next, _ := t.State()
	kind := code[next].Kind
	return kind == api.Load || kind == api.Store || kind == api.Cas
}

// ends: the call ends without another access.
func ends(code []api.Op, t vm.Thread) bool {
	for range api.MaxSteps {
		if t.Ended() {
			return true
		}
		if accesses(code, &t) {
			return false
		}
		t.Step(nil)
	}
	return false
}

// schedule returns the steps that lead to the last of these origins and then on to what has this one.
func schedule(origins []origin, last origin) []int {
	parts := [][]int{slices.Repeat([]int{last.thread}, last.steps)}
	for at := last.from; at > 0; at = origins[at].from {
		parts = append(parts, slices.Repeat([]int{origins[at].thread}, origins[at].steps))
	}
	slices.Reverse(parts)
	return slices.Concat(parts...)
}
