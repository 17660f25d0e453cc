package trial

import (
	"math"

	"barograph/api"
)

// place: calls in an order that is not complete.
type place[State comparable] struct {
	done  [api.MaxThreads]int // the number of calls of each thread that have come
	state State
}

// Linear reports whether a history is linearizable, as package lin does, but for objects of any kind and any number of
// calls. Next executes a call after those before it: it returns the next state, and whether the call, if it has ended,
// has told what it has to tell.
func Linear[State comparable](calls []Call, first State, next func(State, Call) (State, bool)) bool {
	// The calls of a thread come one behind the other, so that a few numbers say which calls have come.
	var threads [api.MaxThreads][]Call
	for _, c := range calls {
		threads[c.Thread] = append(threads[c.Thread], c)
	}
	visited := map[place[State]]bool{}
	waiting := []place[State]{{state: first}}
	for len(waiting) > 0 {
		now := waiting[len(waiting)-1]
		waiting = waiting[:len(waiting)-1]
		if visited[now] {
			continue
		}
		visited[now] = true
		limit := earliest(threads, now.done)
		if limit == math.MaxInt {
			return true
		}
		for i, l := range threads {
			if now.done[i] == len(l) || l[now.done[i]].Begin > limit {
				continue
			}
			if state, fits := next(now.state, l[now.done[i]]); fits {
				after := place[State]{now.done, state}
				after.done[i]++
				waiting = append(waiting, after)
			}
		}
	}
	return false
}

// earliest returns the first end of a call that has not come yet. What begins later comes later.
func earliest(threads [api.MaxThreads][]Call, done [api.MaxThreads]int) int {
	first := math.MaxInt
	for i, l := range threads {
		if done[i] < len(l) && l[done[i]].Ended() {
			first = min(first, l[done[i]].End)
		}
	}
	return first
}
