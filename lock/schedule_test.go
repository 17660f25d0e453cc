package lock

import (
	"fmt"
	"math/rand"
	"slices"
	"testing"

	"barograph/api"
	"barograph/explore"
	"barograph/run"
)

// between: what a thread calls while it is inside.
var between = [][]int{nil, {count}, {nothing, count, fail, count}}

// length returns how many steps the calls of one round take, if it runs alone.
func length(t *testing.T, threads, thread int, codes ...int) int {
	t.Helper()
	x := newContest(t, threads, all(threads, 1, codes...)...)
	x.Steps(thread, 600)
	events, _, _ := run.Play(x.Machine, x.Schedule)
	if n := len(events); n != 2*len(x.Threads[thread]) {
		t.Fatalf("%d threads: thread %d alone has the events %v", threads, thread, events)
	}
	return events[len(events)-1].Step + 1
}

// P11.2: one thread alone, again and again.
func TestOneThreadAlone(t *testing.T) {
	for threads := 1; threads <= api.MaxThreads; threads++ {
		for thread := range threads {
			for _, codes := range between {
				calls := make([][]api.Call, threads)
				calls[thread] = rounds(thread, 3, codes...)
				x := newContest(t, threads, calls...)
				x.Steps(thread, 300*3+300)
				name := fmt.Sprintf("thread %d of %d", thread, threads)
				if left := x.wantGood(t, name); left != 3 {
					t.Errorf("%s: %d calls of Leave have ended", name, left)
				}
			}
		}
	}
}

// Each thread performs some steps, one thread behind the other, again and again.
func TestAlternatingSteps(t *testing.T) {
	lengths := []int{1, 2, 3, 4, 5, 7, 8, 11, 13, 16, 21, 34, 55}
	left, most := 0, 0
	for threads := 1; threads <= api.MaxThreads; threads++ {
		for _, codes := range between {
			for thread := range threads {
				for _, long := range lengths {
					for _, short := range lengths {
						x := newContest(t, threads, all(threads, 3, codes...)...)
						for len(x.Schedule) < 2000 {
							for i := range threads {
								if i == thread {
									x.Steps(i, long)
								} else {
									x.Steps(i, short)
								}
							}
						}
						left += x.wantGood(t, fmt.Sprintf("%d steps of %d and %d of the others", long, thread, short))
						most += 3 * threads
					}
				}
			}
		}
	}
	wantSome(t, left, most)
}

// One thread after the other runs for long, in all orders.
func TestLongRuns(t *testing.T) {
	left, most := 0, 0
	for threads := 2; threads <= api.MaxThreads; threads++ {
		for _, codes := range between {
			for order := range threads * threads * threads * threads {
				for _, length := range []int{40, 90, 300} {
					x := newContest(t, threads, all(threads, 3, codes...)...)
					for n := order; len(x.Schedule) < 4*length; n /= threads {
						x.Steps(n%threads, length)
					}
					x.Turns(800, x.Others()...)
					left += x.wantGood(t, fmt.Sprint("the order ", order))
					most += 3 * threads
				}
			}
		}
	}
	wantSome(t, left, most)
}

// A thread is suspended after each of its steps: of its Enter, inside, and of its Leave. The others go on meanwhile, in
// turn or one of them alone first, and then all of them. One of the others may have begun before.
func TestOneSuspended(t *testing.T) {
	left, most := 0, 0
	for threads := 2; threads <= api.MaxThreads; threads++ {
		for _, codes := range between {
			for thread := range threads {
				for at := range length(t, threads, thread, codes...) {
					for before := 0; before <= 25; before += 5 {
						for first := range threads {
							x := newContest(t, threads, all(threads, 2, codes...)...)
							x.Steps(first, before)
							x.Steps(thread, at)
							if first != thread {
								x.Steps(first, 100)
							}
							x.Turns(100, x.Others(thread)...)
							x.Steps(thread, 50)
							x.Turns(400, x.Others()...)
							left += x.wantGood(t, fmt.Sprintf("%d steps of %d, thread %d of %d at %d", before, first, thread, threads, at))
							most += 2 * threads
						}
					}
				}
			}
		}
	}
	wantSome(t, left, most)
}

// Two threads are suspended, each after each of its steps. The others go on meanwhile, and then the two in turn, before
// one of them runs ahead.
func TestTwoSuspended(t *testing.T) {
	left, most := 0, 0
	for threads := 2; threads <= api.MaxThreads; threads++ {
		for one := range threads {
			for other := range threads {
				if other == one {
					continue
				}
				total := length(t, threads, one, count)
				for at := range total * total {
					x := newContest(t, threads, all(threads, 2, count)...)
					x.Steps(one, at%total)
					x.Steps(other, at/total)
					x.Turns(40, x.Others(one, other)...)
					x.Turns(1+at%5, other, one)
					x.Steps(one, 100)
					x.Turns(400, x.Others()...)
					left += x.wantGood(t, fmt.Sprintf("thread %d at %d, thread %d of %d at %d", one, at%total, other, threads, at/total))
					most += 2 * threads
				}
			}
		}
	}
	wantSome(t, left, most)
}

// A thread enters and does not leave: the others wait for ever, wherever they are.
func TestStayForEver(t *testing.T) {
	for threads := 2; threads <= api.MaxThreads; threads++ {
		for thread := range threads {
			for before := range 60 {
				calls := all(threads, 2, count)
				calls[thread] = calls[thread][:1]
				x := newContest(t, threads, calls...)
				x.Steps((thread+1)%threads, before)
				x.Turns(before, x.Others()...)
				x.Steps(thread, 60)
				x.Turns(700, x.Others()...)
				x.Turns(300, x.Others(thread)...)
				x.wantGood(t, fmt.Sprintf("thread %d of %d", thread, threads))
			}
		}
	}
}

// mixed returns the calls of a thread: rounds if it uses the lock, and calls of other codes anywhere. The last Leave may
// be missing.
func mixed(r *rand.Rand, thread int, locks bool) []api.Call {
	var l []api.Call
	if locks {
		l = rounds(thread, 1+r.Intn(3), between[r.Intn(len(between))]...)
		if r.Intn(20) == 0 {
			l = l[:len(l)-1]
		}
	}
	for len(l) < api.MaxCalls && r.Intn(3) > 0 {
		l = slices.Insert(l, r.Intn(len(l)+1), api.Call{Code: fail + r.Intn(2)})
	}
	return l
}

// Random schedules: each thread performs steps in runs of a length of its own. There may be more threads than the lock is
// for, or fewer, and some may not use it.
func TestRandomSchedules(t *testing.T) {
	left, most := 0, 0
	for seed := range 20000 {
		r := rand.New(rand.NewSource(int64(seed)))
		threads := 1 + r.Intn(api.MaxThreads)
		calls := make([][]api.Call, 1+r.Intn(api.MaxThreads))
		lengths := make([]int, len(calls))
		for i := range calls {
			calls[i] = mixed(r, i, i < threads && r.Intn(6) > 0)
			lengths[i] = 1 + r.Intn([]int{1, 3, 10, 100}[r.Intn(4)])
			for _, c := range calls[i] {
				if c.Code == leave {
					most++
				}
			}
		}
		x := newContest(t, threads, calls...)
		for size := 100 + r.Intn(1500); len(x.Schedule) < size; {
			thread := r.Intn(len(calls))
			x.Steps(thread, 1+r.Intn(lengths[thread]))
		}
		left += x.wantGood(t, fmt.Sprint("seed ", seed))
	}
	wantSome(t, left, most)
}

// note counts the threads that are inside.
func note(inside int, e api.Event) (int, bool) {
	switch code := e.Call % 2; {
	case code == enter && e.End:
		inside++
	case code == leave && !e.End:
		inside--
	}
	return inside, inside <= 1 && e.Code == api.OK
}

// wantExplored explores all schedules, as long as the states are not too many: the words of another algorithm might
// grow without end.
func wantExplored(t *testing.T, x *contest, again bool) {
	t.Helper()
	got := explore.Search[int]{Machine: x.Machine, Again: again, Most: 1 << 19, Note: note}.Run(0)
	t.Logf("%d threads: %d states, all %t", len(x.Threads), got.States, got.All)
	if got.Wrong != nil {
		t.Errorf("%d threads: two are inside, or there is an error, under %v", len(x.Threads), got.Wrong)
	}
}

// All schedules of some rounds.
func TestAllSchedules(t *testing.T) {
	for _, c := range []struct{ threads, rounds int }{{1, 3}, {2, 3}, {3, 2}, {4, 1}} {
		wantExplored(t, newContest(t, c.threads, all(c.threads, c.rounds)...), false)
	}
}

// All schedules of any number of rounds.
func TestAllSchedulesWithoutEnd(t *testing.T) {
	for threads := 1; threads <= api.MaxThreads; threads++ {
		wantExplored(t, newContest(t, threads, all(threads, 1)...), true)
	}
}
