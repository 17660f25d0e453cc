package count

import (
	"fmt"
	"math"
	"math/rand"
	"slices"
	"testing"

	"barograph/api"
	"barograph/explore"
	"barograph/trial"
)

// length returns how many steps a call takes that runs alone.
func length(t *testing.T, call api.Call) int {
	t.Helper()
	x := newTrial([]api.Call{call})
	x.Steps(0, bound)
	return wantEnded(t, "alone", x, 0)[0].Steps
}

// The example: two Adds of 1 emit 0 and 1 in some order.
func TestExample(t *testing.T) {
	for first := range 20 {
		for second := range 20 {
			x := newTrial(adds(1), adds(1))
			x.Steps(0, first)
			x.Steps(1, second)
			rest(x, 0, 1)
			calls := wantEnded(t, "the example", x, 0, 1)
			if told := calls[0].Told[0] + calls[1].Told[0]; told != 1 {
				t.Errorf("%v under %v", calls, x.Schedule)
			}
		}
	}
}

// One thread alone, again and again. The others have no calls, or do not begin them, or have calls of other codes.
func TestOneThreadAlone(t *testing.T) {
	for threads := 1; threads <= api.MaxThreads; threads++ {
		for thread := range threads {
			for _, others := range [][]api.Call{nil, script(0, 3), {{Code: nothing}, touches(thread, 3), {Code: fail}}} {
				calls := slices.Repeat([][]api.Call{others}, threads)
				calls[thread] = script(thread, api.MaxCalls)
				x := newTrial(calls...)
				if len(others) > 0 && others[0].Code == nothing {
					rest(x, x.Others(thread)...)
				}
				x.Steps(thread, bound*api.MaxCalls)
				wantEnded(t, fmt.Sprintf("thread %d of %d", thread, threads), x, thread)
			}
		}
	}
}

// There may be no words but those of the counter.
func TestNoOtherWords(t *testing.T) {
	for threads := 1; threads <= api.MaxThreads; threads++ {
		x := newTrial(scripts(threads, api.MaxCalls)...)
		x.Words = Words()
		x.Turns(300, x.Others()...)
		wantGood(t, fmt.Sprint(threads, " threads"), x)
	}
}

// Each thread performs some steps, one thread behind the other, again and again.
func TestAlternatingSteps(t *testing.T) {
	lengths := []int{1, 2, 3, 4, 5, 6, 7, 8, 11, 13, 21, 34, 55}
	for threads := 2; threads <= api.MaxThreads; threads++ {
		for _, count := range []int{2, 8} {
			for thread := range threads {
				for _, long := range lengths {
					for _, short := range lengths {
						x := newTrial(scripts(threads, count)...)
						for len(x.Schedule) < 40*count*threads {
							x.Steps(thread, long)
							x.Turns(short, x.Others(thread)...)
						}
						rest(x, x.Others()...)
						wantEnded(t, fmt.Sprintf("%d steps of thread %d and %d of the others", long, thread, short), x, x.Others()...)
					}
				}
			}
		}
	}
}

// One thread after the other runs for long, in all orders.
func TestLongRuns(t *testing.T) {
	for threads := 2; threads <= api.MaxThreads; threads++ {
		for order := range threads * threads * threads * threads {
			for length := 10; length <= 60; length++ {
				x := newTrial(scripts(threads, 6)...)
				for n := order; len(x.Schedule) < 4*length; n /= threads {
					x.Steps(n%threads, length)
				}
				rest(x, x.Others()...)
				wantEnded(t, fmt.Sprint("the order ", order), x, x.Others()...)
			}
		}
	}
}

// during: what the others call while a thread is suspended. The value may be the same again in the end.
var during = [][]api.Call{
	adds(3), adds(0), gets(2), adds(3, -3), adds(math.MinInt, math.MinInt), adds(math.MaxInt, 1, math.MinInt),
	slices.Concat(adds(7), gets(1), adds(-8), gets(1), adds(1)), script(2, 12),
}

// A thread is suspended at each step of its Add or its Get, behind calls of its own or not, while the others go on: one
// behind the other, or in turn. Then it ends its call alone, or it never goes on.
func TestOneSuspended(t *testing.T) {
	suspended := slices.Concat(gets(1), adds(5, 0, -4, math.MinInt, math.MaxInt))
	for threads := 2; threads <= api.MaxThreads; threads++ {
		for _, call := range suspended {
			for at := range length(t, call) {
				for before := range 3 {
					for i, others := range during {
						thread := (before + i) % threads
						calls := slices.Repeat([][]api.Call{others}, threads)
						calls[thread] = slices.Concat(script(thread, before), []api.Call{call}, gets(1))
						for _, inTurn := range []bool{false, true} {
							x := newTrial(calls...)
							for _, c := range calls[thread][:before] {
								x.Steps(thread, length(t, c))
							}
							x.Steps(thread, at)
							if inTurn {
								x.Turns(bound*len(others)/2, x.Others(thread)...)
							}
							rest(x, x.Others(thread)...)
							name := fmt.Sprintf("thread %d of %d at %d of %v behind %d calls", thread, threads, at, call, before)
							wantEnded(t, name, x, x.Others(thread)...)
							rest(x, thread)
							wantEnded(t, name, x, x.Others()...)
						}
					}
				}
			}
		}
	}
}

// Two threads are suspended, each at each of its steps, while the others go on. Then one of them goes on, which may be
// suspended once more.
func TestTwoSuspended(t *testing.T) {
	most := length(t, adds(5)[0])
	for threads := 2; threads <= api.MaxThreads; threads++ {
		for code := range most * most * 5 {
			for one := range threads {
				other := (one + 1) % threads
				calls := slices.Repeat([][]api.Call{slices.Concat(adds(5), gets(1), adds(-5))}, threads)
				x := newTrial(calls...)
				x.Steps(one, code%most)
				x.Steps(other, code/most%most)
				rest(x, x.Others(one, other)...)
				x.Steps(one, code/most/most)
				x.Steps(other, bound)
				x.Steps(one, bound)
				rest(x, other, one)
				wantEnded(t, fmt.Sprintf("threads %d and %d of %d at %d", one, other, threads, code), x, x.Others()...)
			}
		}
	}
}

// mixed returns some calls of a thread: maybe none, or only of other codes.
func mixed(r *rand.Rand, thread int) []api.Call {
	var l []api.Call
	kinds := 1 + r.Intn(6)
	for range r.Intn(1 + r.Intn(api.MaxCalls+1)) {
		switch r.Intn(kinds) {
		case 0, 1:
			l = append(l, adds(edges[r.Intn(len(edges))])...)
		case 2, 3:
			l = append(l, gets(1)...)
		case 4:
			l = append(l, touches(thread, r.Intn(9)))
		case 5:
			l = append(l, api.Call{Code: fail + r.Intn(2)})
		}
	}
	return l
}

// random: a machine, and threads that perform steps in runs of lengths of their own.
func random(seed int) (*trial.Trial, *rand.Rand) {
	r := rand.New(rand.NewSource(int64(seed)))
	calls := make([][]api.Call, 1+r.Intn(api.MaxThreads))
	lengths := make([]int, len(calls))
	for i := range calls {
		calls[i] = mixed(r, i)
		lengths[i] = 1 + r.Intn([]int{1, 3, 10, 100}[r.Intn(4)])
	}
	x := newTrial(calls...)
	for size := r.Intn(400); len(x.Schedule) < size; {
		thread := r.Intn(len(calls))
		x.Steps(thread, 1+r.Intn(lengths[thread]))
	}
	return x, r
}

// Random schedules. In the end, the threads end their calls in some order.
func TestRandomSchedules(t *testing.T) {
	few := 0
	for seed := range 30000 {
		x, r := random(seed)
		name := fmt.Sprint("seed ", seed)
		if calls := wantGood(t, name, x); 2 <= len(calls) && len(calls) <= api.MaxActs {
			few++
		}
		for _, i := range r.Perm(len(x.Threads)) {
			rest(x, i)
		}
		wantEnded(t, name, x, x.Others()...)
	}
	if few < 5000 {
		t.Errorf("only %d histories are short enough for package lin", few)
	}
}

// Wherever the others stand, each thread ends its call if it runs alone from there.
func TestAloneFromAnywhere(t *testing.T) {
	for seed := range 500 {
		x, _ := random(seed)
		x.Schedule = x.Schedule[:min(len(x.Schedule), 100)]
		for size := range x.Schedule {
			for thread := range x.Threads {
				alone := *x
				alone.Schedule = slices.Clone(x.Schedule[:size])
				rest(&alone, thread)
				wantEnded(t, fmt.Sprint("seed ", seed, " at ", size, ", thread ", thread), &alone, thread)
			}
		}
	}
}

// All schedules of a few calls. Each call that runs alone ends in time, from each state.
func TestAllSchedules(t *testing.T) {
	for _, threads := range [][][]api.Call{
		{adds(1), adds(2), adds(4), gets(1)},
		{adds(1), adds(-1), adds(5), adds(math.MinInt)},
		{adds(3, -3), adds(5, 0), gets(2)},
		{adds(math.MaxInt, 1), slices.Concat(gets(1), adds(math.MinInt)), adds(math.MinInt)},
		{adds(1, 2, 4), slices.Concat(gets(1), adds(8), gets(1))},
		{adds(0, 0), gets(1), nil, adds(-2)},
		{adds(3, -3, 3, -3), slices.Concat(adds(5, -5), gets(2))},
		{slices.Concat(adds(7), gets(1), adds(-9))},
		{adds(3, -3), adds(5), gets(1), adds(-1)},
		{adds(1, 2), adds(4, 8), adds(16, -1)},
	} {
		x := newTrial(threads...)
		got := explore.Search[trial.History]{
			Machine: x.Machine, Alone: bound, Most: 1 << 20,
			Note: func(h trial.History, e api.Event) (trial.History, bool) {
				h = h.After(e)
				return h, wrong(h.Calls(threads)) == ""
			},
		}.Run(trial.History{})
		t.Logf("%v: %d states", threads, got.States)
		if got.Wrong != nil {
			x.Schedule = got.Wrong
			wantGood(t, fmt.Sprint(threads), x)
		}
		if !got.All {
			t.Errorf("%v: not all schedules are good: %v", threads, got)
		}
	}
}
