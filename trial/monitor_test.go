package trial

import (
	"fmt"
	"math/rand"
	"slices"
	"testing"

	"barograph/api"
)

// step: of a history, at which a call begins or ends.
type step struct {
	api.Event
	call Call
}

// steps returns the steps of a history in order. A call that ends when another one begins overlaps it.
func steps(calls []Call) []step {
	var l []step
	for _, c := range calls {
		e := api.Event{Step: 2 * c.Begin, Thread: c.Thread, Call: c.Number}
		l = append(l, step{e, c})
		if c.Ended() {
			e.Step, e.End, e.Told, e.Code = 2*c.End+1, true, c.Told, c.Failed
			l = append(l, step{e, c})
		}
	}
	slices.SortStableFunc(l, func(a, b step) int { return a.Step - b.Step })
	return l
}

// ofThreads returns the calls of each thread.
func ofThreads(calls []Call) [][]api.Call {
	threads := make([][]api.Call, api.MaxThreads)
	for _, c := range calls {
		threads[c.Thread] = append(threads[c.Thread], c.Call)
	}
	return threads
}

// until returns the history up to the last of these steps: what has not ended then has told nothing.
func until(l []step) []Call {
	var calls []Call
	for _, s := range l {
		c := s.call
		if s.End {
			i := slices.IndexFunc(calls, func(o Call) bool { return o.Thread == c.Thread && o.Number == c.Number })
			calls[i] = c
		} else {
			c.End, c.Told = Open, nil
			calls = append(calls, c)
		}
	}
	return calls
}

// A run is linearizable up to each event if and only if the history up to there is.
func TestMonitor(t *testing.T) {
	for _, o := range objects {
		wrong := 0
		for seed := range 4000 {
			calls := o.some(rand.New(rand.NewSource(int64(seed))))
			l := steps(calls)
			m, notes := Watch(ofThreads(calls), "", o.next)
			good := true
			for i := 0; i < len(l) && good; i++ {
				notes, good = m.After(notes, l[i].Event)
				if want := Linear(until(l[:i+1]), "", o.next); good != want {
					t.Fatalf("seed %d: kind %d: After = %t, want %t: %v", seed, o.kind, good, want, l[:i+1])
				}
			}
			if !good {
				wrong++
				if _, good := m.After(notes, api.Event{}); good {
					t.Fatalf("seed %d: kind %d: what was wrong is linearizable again", seed, o.kind)
				}
			}
		}
		if wrong < 100 {
			t.Errorf("kind %d: only %d histories are not linearizable", o.kind, wrong)
		}
	}
}

func begin(thread, call int) api.Event {
	return api.Event{Thread: thread, Call: call}
}

func end(thread, call, told int) api.Event {
	return api.Event{Thread: thread, Call: call, End: true, Told: []int{told}}
}

// notesOf returns the notes after these events.
func notesOf[State comparable](m *Monitor[State], notes string, events ...api.Event) string {
	for _, e := range events {
		notes, _ = m.After(notes, e)
	}
	return notes
}

// What is over and makes no difference any more is not noted.
func TestNotesDoNotGrow(t *testing.T) {
	queue := objects[2]
	threads := [][]api.Call{{{Code: put, Args: []int{5}}, {Code: put, Args: []int{6}}}, {{}, {}}}
	m, first := Watch(threads, "", queue.next)
	round := []api.Event{
		begin(0, 0), begin(1, 0), end(0, 0, 0), begin(0, 1), end(1, 0, 5), begin(1, 1), end(0, 1, 0), end(1, 1, 6),
	}
	notes := []string{first}
	for range 3 {
		for i, e := range round {
			last := notes[len(notes)-1]
			notes = append(notes, notesOf(m, last, e))
			if at := len(notes) - 1; at > len(round) && notes[at] != notes[at-len(round)] {
				t.Errorf("event %d of another round is noted as %q, want %q", i, notes[at], notes[at-len(round)])
			}
		}
	}
	// Only the last event leads back to where the round has begun.
	for i, n := range notes[1:len(round)] {
		if n == first {
			t.Errorf("event %d is not noted", i)
		}
	}
	one, other := notesOf(m, first, begin(0, 0), begin(1, 0)), notesOf(m, first, begin(1, 0), begin(0, 0))
	if one != other {
		t.Errorf("the order of begins is noted: %q, %q", one, other)
	}
}

// Of several possible states it does not matter in which way each of them is possible.
func TestNotesOfSeveralStates(t *testing.T) {
	register := objects[0]
	five, six := api.Call{Code: put, Args: []int{5}}, api.Call{Code: put, Args: []int{6}}
	m, first := Watch([][]api.Call{{five, six}, {six, five}}, "", register.next)
	one := notesOf(m, first, begin(0, 0), begin(1, 0), end(0, 0, 0), end(1, 0, 0))
	other := notesOf(m, one, begin(0, 1), begin(1, 1), end(1, 1, 0), end(0, 1, 0))
	if one != other {
		t.Errorf("two writes at the same time are noted as %q, and the other way round as %q", one, other)
	}
}

// The error of a call counts, and what calls of different threads and numbers are.
func TestMonitorOfCalls(t *testing.T) {
	var seen []Call
	next := func(state int, c Call) (int, bool) {
		seen = append(seen, c)
		return state, c.Failed == api.OK
	}
	threads := [][]api.Call{nil, {{Code: 3}, {Code: 4, Args: []int{7}}}}
	m, first := Watch(threads, 0, next)
	begun, _ := m.After(first, api.Event{Thread: 1, Call: 1})
	if _, good := m.After(begun, api.Event{Thread: 1, Call: 1, End: true, Told: []int{8}}); !good {
		t.Error("a call without an error is wrong")
	}
	want := []Call{
		{Call: threads[1][1], Thread: 1, Number: 1, End: Open},
		{Call: threads[1][1], Thread: 1, Number: 1, Told: []int{8}},
	}
	if fmt.Sprint(seen) != fmt.Sprint(want) {
		t.Errorf("the calls are %v, want %v", seen, want)
	}
	if _, good := m.After(begun, api.Event{Thread: 1, Call: 1, End: true, Code: api.ErrFull}); good {
		t.Error("a call with an error is good")
	}
}

// A call that cannot take effect in a state has to wait for another one, and has no effect until then.
func TestMonitorOfWaiting(t *testing.T) {
	const get = 2
	// The code 1 adds 1, the code 0 takes 1 away, and the other one tells how much there is.
	next := func(state int, c Call) (int, bool) {
		switch c.Code {
		case put:
			return state + 1, true
		case get:
			return state, tells(c, state)
		}
		return state - 1, state > 0
	}
	threads := [][]api.Call{{{Code: put}}, {{}}, {{Code: get}}}
	for _, c := range []struct {
		name   string
		events []api.Event
		good   bool
	}{
		{"waiting", []api.Event{begin(1, 0), end(1, 0, 0)}, false},
		{"not waiting any more", []api.Event{begin(1, 0), begin(0, 0), end(1, 0, 0)}, true},
		{"no effect", []api.Event{begin(1, 0), begin(2, 0), end(2, 0, 0)}, true},
		{"an effect too early", []api.Event{begin(1, 0), begin(2, 0), end(2, 0, -1)}, false},
		{"an effect", []api.Event{begin(1, 0), begin(0, 0), end(0, 0, 0), begin(2, 0), end(2, 0, 0)}, true},
		{"no effect yet", []api.Event{begin(1, 0), begin(0, 0), end(0, 0, 0), begin(2, 0), end(2, 0, 1)}, true},
	} {
		m, first := Watch(threads, 0, next)
		if got := notesOf(m, first, c.events...) != ""; got != c.good {
			t.Errorf("%s: %t, want %t", c.name, got, c.good)
		}
	}
}
