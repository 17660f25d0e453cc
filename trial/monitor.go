package trial

import (
	"slices"
	"strconv"
	"strings"

	"barograph/api"
)

// Monitor follows runs event by event, for the notes of package explore: these say in which states an object may be if
// the run is linearizable up to now. Unlike histories they do not grow, so that a machine whose threads call again and
// again has no more states than before.
type Monitor[State comparable] struct {
	threads [][]api.Call
	next    func(State, Call) (State, bool)
	numbers map[possible[State]]int // of all that have been possible at some time
	all     []possible[State]       // by their numbers
}

// possible: a state in which an object may be, and what the calls in progress have done for that.
type possible[State comparable] struct {
	state State
	calls [api.MaxThreads]progress[State]
}

// progress: of the call of a thread. The zero value is for a thread that is not within a call.
type progress[State comparable] struct {
	within bool
	number int // among the calls of the thread
	done   bool
	before State // the state before the call, if it is done
}

// Watch returns a monitor for these threads and an object as in Linear, and the notes at first.
func Watch[State comparable](threads [][]api.Call, first State, next func(State, Call) (State, bool)) (*Monitor[State], string) {
	m := &Monitor[State]{threads: threads, next: next, numbers: map[possible[State]]int{}}
	return m, m.write([]possible[State]{{state: first}})
}

// After returns the notes with another event, and whether the run is linearizable with it.
func (m *Monitor[State]) After(notes string, e api.Event) (string, bool) {
	var l []possible[State]
	for text := range strings.SplitSeq(notes, comma) {
		if number, wrong := strconv.Atoi(text); wrong == nil {
			l = append(l, m.all[number])
		}
	}
	if e.End {
		l = m.ended(m.reachable(l), e)
	} else {
		for i := range l {
			l[i].calls[e.Thread] = progress[State]{within: true, number: e.Call}
		}
	}
	return m.write(l), len(l) > 0
}

// reachable adds what becomes possible when calls in progress take effect. It is early enough to do so when a call
// ends, since the others are in progress then as well.
func (m *Monitor[State]) reachable(l []possible[State]) []possible[State] {
	found := map[possible[State]]bool{}
	for _, p := range l {
		found[p] = true
	}
	for at := 0; at < len(l); at++ {
		for i, c := range l[at].calls {
			if !c.within || c.done {
				continue
			}
			after := l[at]
			state, fits := m.next(after.state, m.call(i, c.number))
			after.calls[i].done, after.calls[i].before, after.state = true, after.state, state
			if fits && !found[after] {
				found[after] = true
				l = append(l, after)
			}
		}
	}
	return l
}

// ended returns those of l in which the call that ends has taken effect and had to tell what it has told.
func (m *Monitor[State]) ended(l []possible[State], e api.Event) []possible[State] {
	c := m.call(e.Thread, e.Call)
	c.End, c.Told, c.Failed = c.Begin, e.Told, e.Code
	var left []possible[State]
	for _, p := range l {
		if !p.calls[e.Thread].done {
			continue
		}
		if _, fits := m.next(p.calls[e.Thread].before, c); fits {
			p.calls[e.Thread] = progress[State]{}
			left = append(left, p)
		}
	}
	return left
}

// call returns a call that has not ended. Its steps are not known.
func (m *Monitor[State]) call(thread, number int) Call {
	return Call{Call: m.threads[thread][number], Thread: thread, Number: number, End: Open}
}

// write returns the same notes for the same possibilities.
func (m *Monitor[State]) write(l []possible[State]) string {
	var numbers []int
	for _, p := range l {
		number, known := m.numbers[p]
		if !known {
			number = len(m.all)
			m.numbers[p] = number
			m.all = append(m.all, p)
		}
		numbers = append(numbers, number)
	}
	slices.Sort(numbers)
	var texts []string
	for _, n := range slices.Compact(numbers) {
		texts = append(texts, strconv.Itoa(n))
	}
	return strings.Join(texts, comma)
}
