package trial

import (
	"fmt"
	"math/rand"
	"slices"
	"testing"

	"barograph/api"
	"barograph/run"
)

// machine: with the codes 0 (three steps, tells its argument), 1 (fails in the second step), and 2 (no instructions).
func machine(threads ...[]api.Call) api.Machine {
	return api.Machine{Codes: [][]api.Op{
		{{Kind: api.Copy, A: 1, B: 0}, {Kind: api.Emit, A: 1}, {Kind: api.Done}},
		{{Kind: api.Emit, A: 0}, {Kind: api.Load, A: 0, B: 0, C: api.MaxWords}, {Kind: api.Done}},
		nil,
	}, Threads: threads}
}

// calls: of these codes, with the arguments 0, 1, 2 and so on.
func calls(codes ...int) []api.Call {
	var l []api.Call
	for i, code := range codes {
		l = append(l, api.Call{Code: code, Args: []int{i}})
	}
	return l
}

func TestSchedule(t *testing.T) {
	x := Trial{Machine: machine(nil, nil, nil, nil)}
	x.Steps(2, 3)
	x.Steps(1, 0)
	x.Turns(2, 0, 3)
	x.Turns(3)
	x.Turns(1, x.Others()...)
	x.Turns(1, x.Others(1)...)
	x.Turns(2, x.Others(3, 0, 1)...)
	x.Turns(2, x.Others(0, 1, 2, 3)...)
	if want := []int{2, 2, 2, 0, 3, 0, 3, 0, 1, 2, 3, 0, 2, 3, 2, 2}; !slices.Equal(x.Schedule, want) {
		t.Errorf("the schedule is %v, want %v", x.Schedule, want)
	}
	if x.Machine.Threads = nil; len(x.Others()) > 0 {
		t.Errorf("without threads, there are the others %v", x.Others())
	}
}

func TestCalls(t *testing.T) {
	c := calls(0, 1, 2, 0)
	x := Trial{Machine: machine(c, c[:1], nil, c[2:3])}
	x.Words = []int{7, 8}
	x.Schedule = []int{0, 1, 0, 1, 2, 1, 3, 1, 0, 3, 0, 1, 2, 3, 0, 0, 1, 0}
	got, words, e := x.Calls()
	want := []Call{
		{Call: c[0], Thread: 0, Number: 0, Begin: 0, End: 8, Told: []int{0}, Steps: 3, Alone: 1},
		{Call: c[0], Thread: 1, Number: 0, Begin: 1, End: 5, Told: []int{0}, Steps: 3, Alone: 2},
		{Call: c[2], Thread: 3, Number: 0, Begin: 6, End: 6, Steps: 1, Alone: 1},
		{Call: c[1], Thread: 0, Number: 1, Begin: 10, End: 14, Told: []int{1}, Failed: api.ErrRange, Steps: 2, Alone: 2},
		{Call: c[2], Thread: 0, Number: 2, Begin: 15, End: 15, Steps: 1, Alone: 1},
		{Call: c[3], Thread: 0, Number: 3, Begin: 17, End: Open, Steps: 1, Alone: 1},
	}
	if fmt.Sprint(got) != fmt.Sprint(want) || !slices.Equal(words, x.Words) || e != api.OK {
		t.Errorf("Calls = %v, %v, %d, want %v", got, words, e, want)
	}
	for i, c := range got {
		if c.Ended() != (i < 5) {
			t.Errorf("call %d has ended: %t", i, c.Ended())
		}
	}
}

// Others that have nothing to execute do not interrupt a thread that runs alone.
func TestAlone(t *testing.T) {
	long := slices.Repeat([]api.Op{{Kind: api.Set}}, 10)
	m := api.Machine{Codes: [][]api.Op{long}, Threads: [][]api.Call{make([]api.Call, 2), make([]api.Call, 1), nil}}
	for _, c := range []struct {
		schedule []int
		want     [][2]int // Steps and Alone
	}{
		{[]int{0, 0, 0, 0}, [][2]int{{4, 4}}},
		{[]int{0, 0, 0, 2, 0, 2, 0}, [][2]int{{5, 5}}},
		{[]int{0, 0, 0, 1, 0, 0}, [][2]int{{5, 3}, {1, 1}}},
		{[]int{0, 0, 1, 0, 0, 0}, [][2]int{{5, 3}, {1, 1}}},
		{[]int{0, 1, 0, 0, 1, 0, 0, 2, 0, 1, 0}, [][2]int{{7, 3}, {3, 1}}},
		{slices.Repeat([]int{0}, 14), [][2]int{{10, 10}, {4, 4}}},
		{slices.Repeat([]int{0, 1}, 10), [][2]int{{10, 1}, {10, 1}}},
		{slices.Repeat([]int{0, 1}, 15), [][2]int{{10, 1}, {10, 1}, {5, 5}}},
	} {
		x := Trial{Machine: m, Schedule: c.schedule}
		got, _, _ := x.Calls()
		var numbers [][2]int
		for _, a := range got {
			numbers = append(numbers, [2]int{a.Steps, a.Alone})
		}
		if !slices.Equal(numbers, c.want) {
			t.Errorf("%v: steps, and alone: %v, want %v", c.schedule, numbers, c.want)
		}
	}
}

func TestCallsThatCannotBePlayed(t *testing.T) {
	for _, c := range []struct {
		trial Trial
		want  api.Errno
	}{
		{Trial{}, api.OK},
		{Trial{Machine: machine(calls(3))}, api.ErrForm},
		{Trial{Machine: machine(nil), Schedule: make([]int, api.MaxSteps+1)}, api.ErrSize},
		{Trial{Machine: machine(nil), Schedule: []int{0, 1}}, api.ErrRange},
	} {
		if got, words, e := c.trial.Calls(); e != c.want || len(got) > 0 || len(words) > 0 {
			t.Errorf("Calls = %v, %v, %d, want %d", got, words, e, c.want)
		}
	}
}

// before: for each call of a list, by thread and number, the calls that had ended when it began, and what it came to.
func before(l []Call) map[string]bool {
	found := map[string]bool{}
	for _, a := range l {
		name := fmt.Sprint(a.Thread, a.Number)
		found[fmt.Sprint(name, a.Call, a.Ended(), a.Told, a.Failed)] = true
		for _, b := range l {
			if b.Ended() && b.End < a.Begin {
				found[fmt.Sprint(b.Thread, b.Number, "before", name)] = true
			}
		}
	}
	return found
}

// A history has the calls of the run and their order in time.
func TestHistory(t *testing.T) {
	for seed := range 3000 {
		r := rand.New(rand.NewSource(int64(seed)))
		x := Trial{Machine: machine()}
		for range 1 + r.Intn(api.MaxThreads) {
			var codes []int
			for range r.Intn(5) {
				codes = append(codes, r.Intn(3))
			}
			x.Machine.Threads = append(x.Machine.Threads, calls(codes...))
		}
		for range r.Intn(40) {
			x.Steps(r.Intn(len(x.Threads)), 1+r.Intn(3))
		}
		events, _, _ := run.Play(x.Machine, x.Schedule)
		var h History
		for _, e := range events {
			e.Step = 0
			h = h.After(e)
		}
		l, _, _ := x.Calls()
		got, want := before(h.Calls(x.Threads)), before(l)
		if fmt.Sprint(got) != fmt.Sprint(want) {
			t.Fatalf("seed %d: the history has %v, want %v", seed, got, want)
		}
	}
}

// The order of events is of no importance if it does not say that one call ended before another one began.
func TestEqualHistories(t *testing.T) {
	begin := func(thread, call int) api.Event { return api.Event{Thread: thread, Call: call} }
	end := func(thread, call int, told ...int) api.Event {
		return api.Event{Thread: thread, Call: call, End: true, Told: told}
	}
	failed := end(0, 0, 5)
	failed.Code = api.ErrFull
	for _, c := range []struct {
		name       string
		one, other []api.Event
		equal      bool
	}{
		{"begins", []api.Event{begin(0, 0), begin(1, 0)}, []api.Event{begin(1, 0), begin(0, 0)}, true},
		{"ends", []api.Event{begin(0, 0), begin(1, 0), end(0, 0), end(1, 0, 3)}, []api.Event{begin(1, 0), begin(0, 0), end(1, 0, 3), end(0, 0)}, true},
		{"begins behind an end", []api.Event{begin(0, 0), end(0, 0), begin(1, 0), begin(0, 1)}, []api.Event{begin(0, 0), end(0, 0), begin(0, 1), begin(1, 0)}, true},
		{"an end and a begin", []api.Event{begin(0, 0), end(0, 0), begin(1, 0)}, []api.Event{begin(0, 0), begin(1, 0), end(0, 0)}, false},
		{"what is told", []api.Event{begin(0, 0), end(0, 0, 5)}, []api.Event{begin(0, 0), end(0, 0, 6)}, false},
		{"how much is told", []api.Event{begin(0, 0), end(0, 0, 5)}, []api.Event{begin(0, 0), end(0, 0, 5, 5)}, false},
		{"an error", []api.Event{begin(0, 0), end(0, 0, 5)}, []api.Event{begin(0, 0), failed}, false},
		{"not ended", []api.Event{begin(0, 0), end(0, 0)}, []api.Event{begin(0, 0)}, false},
		{"the thread", []api.Event{begin(0, 0)}, []api.Event{begin(1, 0)}, false},
	} {
		var one, other History
		for _, e := range c.one {
			one = one.After(e)
		}
		for _, e := range c.other {
			other = other.After(e)
		}
		if (one == other) != c.equal {
			t.Errorf("%s: %v and %v", c.name, one, other)
		}
	}
}
