package lock

import (
	"fmt"
	"slices"
	"testing"

	"barograph/api"
	"barograph/vm"
)

// bound: the steps of each thread within which so many calls of Enter end, and those of Leave after them.
func bound(enters int) int {
	return 300*enters + 300
}

// sets returns all sets of some of so many threads.
func sets(threads int) [][]int {
	var l [][]int
	for code := 1; code < 1<<threads; code++ {
		var set []int
		for i := range threads {
			if code>>i&1 == 1 {
				set = append(set, i)
			}
		}
		l = append(l, set)
	}
	return l
}

// callers: of so many threads, only some have calls.
func callers(t *testing.T, threads, present int, set []int, k int) *contest {
	t.Helper()
	calls := make([][]api.Call, present)
	for _, i := range set {
		calls[i] = rounds(i, k)
	}
	return newContest(t, threads, calls...)
}

// P11.3, as package run counts the steps. The lock may be for more threads than there are.
func TestTurns(t *testing.T) {
	for threads := 1; threads <= api.MaxThreads; threads++ {
		for present := 1; present <= threads; present++ {
			for _, set := range sets(present) {
				for _, turn := range [][]int{set, callers(t, threads, present, nil, 0).Others()} {
					for k := 1; 2*k <= api.MaxCalls && bound(k*len(set))*len(turn) <= api.MaxSteps; k++ {
						x := callers(t, threads, present, set, k)
						x.Turns(bound(k*len(set)), turn...)
						name := fmt.Sprintf("%v of %d threads, %d times", set, threads, k)
						if left := x.wantGood(t, name); left != k*len(set) {
							t.Errorf("%s: %d calls of Leave have ended", name, left)
						}
					}
				}
			}
		}
	}
}

// last returns how many steps each thread has performed when the last call ends, if they perform steps in turn. The
// schedule may be longer than package run allows.
func last(t *testing.T, x *contest, turn []int, limit int) int {
	t.Helper()
	words := slices.Clone(x.Words)
	threads := make([]vm.Thread, len(x.Threads))
	begun := make([]int, len(x.Threads))
	ended := 0
	for steps := range limit {
		for _, i := range turn {
			calls := x.Threads[i]
			if threads[i].Ended() && begun[i] < len(calls) {
				threads[i], _ = vm.Begin(x.Codes[calls[begun[i]].Code], calls[begun[i]].Args)
				begun[i]++
			}
			within := !threads[i].Ended()
			if e := threads[i].Step(words); e != api.OK {
				t.Errorf("thread %d: Step = %d", i, e)
			}
			if within && threads[i].Ended() {
				ended++
			}
		}
		if ended == len(slices.Concat(x.Threads...)) {
			return steps + 1
		}
	}
	return limit + 1
}

// P11.3 for as many calls as a thread can have.
func TestManyTurns(t *testing.T) {
	for threads := 1; threads <= api.MaxThreads; threads++ {
		for present := 1; present <= threads; present++ {
			for _, set := range sets(present) {
				for k := 1; 2*k <= api.MaxCalls; k++ {
					x := callers(t, threads, present, set, k)
					limit := bound(k * len(set))
					for _, turn := range [][]int{set, x.Others()} {
						if n := last(t, x, turn, limit); n > limit {
							t.Errorf("%v of %d threads, %d times: more than %d steps", set, threads, k, limit)
						}
					}
				}
			}
		}
	}
}

// The example: two threads that each call Enter and Leave once.
func TestExampleOfTurns(t *testing.T) {
	x := newContest(t, 2, all(2, 1)...)
	x.Turns(900, 0, 1)
	if left := x.wantGood(t, "the example"); left != 2 {
		t.Errorf("%d calls of Leave have ended", left)
	}
}
