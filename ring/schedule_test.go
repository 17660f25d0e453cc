package ring

import (
	"fmt"
	"math/rand"
	"slices"
	"testing"

	"barograph/api"
	"barograph/explore"
	"barograph/trial"
)

// lengths returns how many steps a Put and a Take take that insert and remove an element alone.
func lengths(t *testing.T, places int) (putting, taking int) {
	t.Helper()
	x := newRing(places, puts(0, 1), takes(1))
	x.rest(0, 1)
	calls := x.wantEnded(t, "alone", 0, 1)
	return calls[0].Steps, calls[1].Steps
}

func wantTold(t *testing.T, name string, x *ring, calls []trial.Call, thread int, want []int) {
	t.Helper()
	if got := told(calls, thread); !slices.Equal(got, want) {
		t.Fatalf("%s: %d places: thread %d tells %v, want %v, under %v", name, x.places, thread, got, want, x.Schedule)
	}
}

// The example: without a Take, the second of two Puts emits 0 if there is one place.
func TestExample(t *testing.T) {
	for places := 1; places <= api.MaxRing; places++ {
		for _, p := range pairs() {
			x := p.ring(places, puts(3, places+1), takes(1))
			x.rest(p.producer)
			calls := x.wantEnded(t, "the example", p.producer)
			wantTold(t, "the example", x, calls, p.producer, append(slices.Repeat([]int{1}, places), 0))
		}
	}
}

// A queue is filled until a Put emits 0 and emptied until a Take emits -1, again and again.
func TestFilledAndEmptied(t *testing.T) {
	for places := 1; places <= api.MaxRing; places++ {
		for _, p := range pairs() {
			rounds := api.MaxCalls / (places + 1)
			x := p.ring(places, puts(places, rounds*(places+1)), takes(rounds*(places+1)))
			var puts, takes []int
			for round := range rounds {
				x.calls(p.producer, places+1)
				p.others(x, 2)
				x.calls(p.consumer, places+1)
				for _, c := range x.Threads[p.producer][round*(places+1):][:places] {
					puts, takes = append(puts, 1), append(takes, c.Args[0])
				}
				puts, takes = append(puts, 0), append(takes, -1)
			}
			name := fmt.Sprint("the pair ", p)
			calls := x.wantEnded(t, name, p.producer, p.consumer)
			wantTold(t, name, x, calls, p.producer, puts)
			wantTold(t, name, x, calls, p.consumer, takes)
		}
	}
}

// There may be no words but those of the queue, and a single thread that both puts and takes.
func TestOneThread(t *testing.T) {
	for places := 1; places <= api.MaxRing; places++ {
		for code := range 1 << 8 {
			var calls []api.Call
			for i := range api.MaxCalls {
				if code>>(i%8)&1 == 1 {
					calls = append(calls, puts(i, 1)...)
				} else {
					calls = append(calls, takes(1)...)
				}
			}
			x := newRing(places, calls)
			x.Words, _ = Words(places)
			x.rest(0)
			x.wantEnded(t, fmt.Sprintf("the order %b", code), 0)
		}
	}
}

// Each thread performs some steps, one behind the other, again and again, and one of them may be ahead at first.
func TestAlternatingSteps(t *testing.T) {
	runs := []int{1, 2, 3, 4, 5, 6, 7, 8, 11, 12, 13, 21, 24, 25, 34, 55}
	for places := 1; places <= api.MaxRing; places++ {
		for _, putting := range runs {
			for _, taking := range runs {
				for i := (putting + taking) % 5; i < len(pairs()); i += 5 {
					p := pairs()[i]
					x := p.ring(places, puts(i, api.MaxCalls), takes(api.MaxCalls))
					x.Steps(p.producer, 20*i)
					for turn := range 12 * api.MaxCalls / max(putting, taking) {
						x.Steps(p.producer, putting)
						x.Steps(p.consumer, taking)
						p.others(x, turn%2)
					}
					x.rest(p.consumer, p.producer)
					x.wantEnded(t, fmt.Sprintf("%d steps and %d of the pair %v", putting, taking, p), p.producer, p.consumer)
				}
			}
		}
	}
}

// One thread runs for long, then the other one, in all orders.
func TestLongRuns(t *testing.T) {
	for places := 1; places <= api.MaxRing; places++ {
		for order := range 1 << 6 {
			for length := 10; length <= 100; length += 6 {
				p := pairs()[(order+length)%len(pairs())]
				x := p.ring(places, puts(order, api.MaxCalls), takes(api.MaxCalls))
				for i := range 6 {
					x.Steps([]int{p.producer, p.consumer}[order>>i&1], length)
					p.others(x, 1)
				}
				x.rest([]int{p.producer, p.consumer}[order&1])
				x.rest(p.producer, p.consumer)
				x.wantEnded(t, fmt.Sprintf("runs of %d in the order %b of the pair %v", length, order, p), p.producer, p.consumer)
			}
		}
	}
}

// filled: a queue of the pair with so many elements, into which others have been inserted and removed before.
func filled(t *testing.T, p pair, places, before, inside int) *ring {
	t.Helper()
	x := p.ring(places, puts(before, before+inside+3), takes(before+4))
	putting, taking := lengths(t, places)
	for range before {
		x.Steps(p.producer, putting)
		x.Steps(p.consumer, taking)
	}
	x.Steps(p.producer, inside*putting)
	return x
}

// The producer is suspended at each step of its Put while the consumer goes on, and the other way round. The other one
// may be suspended as well while the first one ends its call, and maybe more calls.
func TestSuspended(t *testing.T) {
	for places := 1; places <= api.MaxRing; places++ {
		putting, taking := lengths(t, places)
		for inside := range places + 1 {
			for before := 0; before < places; before += 1 + places/2 {
				for at := range max(putting, taking) {
					for others := 0; others <= 4*max(putting, taking); others += 1 + places/2 {
						for turn := range 2 {
							p := pairs()[(inside+before+at+others)%len(pairs())]
							one, other := p.producer, p.consumer
							if turn == 1 {
								one, other = other, one
							}
							x := filled(t, p, places, before, inside)
							x.Steps(one, at)
							x.Steps(other, others)
							x.Steps(one, bound/(1+others%7))
							x.rest(other, one)
							name := fmt.Sprintf("thread %d at %d and then %d at %d, with %d and then %d elements", one, at, other, others, before, inside)
							x.wantEnded(t, name, one, other)
						}
					}
				}
			}
		}
	}
}

// A thread that is suspended never goes on: the other one ends all its calls.
func TestSuspendedForever(t *testing.T) {
	for places := 1; places <= api.MaxRing; places++ {
		putting, taking := lengths(t, places)
		for inside := range places + 1 {
			for _, p := range pairs() {
				for at := range putting {
					x := filled(t, p, places, 1, inside)
					x.Steps(p.producer, at)
					x.rest(p.consumer)
					x.wantEnded(t, fmt.Sprintf("the producer of %v at %d with %d elements", p, at, inside), p.consumer)
				}
				for at := range taking {
					x := filled(t, p, places, 1, inside)
					x.Steps(p.consumer, at)
					x.rest(p.producer)
					x.wantEnded(t, fmt.Sprintf("the consumer of %v at %d with %d elements", p, at, inside), p.producer)
				}
			}
		}
	}
}

// random: any pair, with any calls, and threads that perform steps in runs of lengths of their own.
func random(seed int) (*ring, pair) {
	r := rand.New(rand.NewSource(int64(seed)))
	p := pairs()[r.Intn(len(pairs()))]
	places := 1 + r.Intn(api.MaxRing)
	most := []int{3, 8, api.MaxCalls}[r.Intn(3)]
	x := p.ring(places, puts(r.Intn(len(elements)), r.Intn(most+1)), takes(r.Intn(most+1)))
	few := r.Intn(2) == 0
	for i := range x.Threads[p.producer] {
		if few {
			x.Threads[p.producer][i].Args = []int{r.Intn(2)}
		}
	}
	var runs []int
	for range x.Threads {
		runs = append(runs, 1+r.Intn([]int{1, 3, 10, 100}[r.Intn(4)]))
	}
	for size := r.Intn(1 + 30*most); len(x.Schedule) < size; {
		thread := r.Intn(len(x.Threads))
		x.Steps(thread, 1+r.Intn(runs[thread]))
	}
	return x, p
}

// Random schedules. In the end, the two threads end their calls in any order.
func TestRandomSchedules(t *testing.T) {
	count := map[string]int{}
	for seed := range 20000 {
		x, p := random(seed)
		name := fmt.Sprint("seed ", seed)
		x.wantGood(t, name)
		if seed%2 == 0 {
			x.rest(p.producer, p.consumer)
		} else {
			x.rest(p.consumer, p.producer)
		}
		calls := x.wantEnded(t, name, p.producer, p.consumer)
		for _, n := range told(calls, p.producer) {
			count[fmt.Sprint("a Put tells ", n)]++
		}
		if slices.Contains(told(calls, p.consumer), -1) {
			count["a Take tells -1"]++
		}
		if l := acts(calls); len(l) > 4 && len(l) <= api.MaxActs {
			count["short enough for package lin"]++
		}
	}
	for name, want := range map[string]int{"a Put tells 0": 4000, "a Put tells 1": 40000, "a Take tells -1": 4000, "short enough for package lin": 3000} {
		if count[name] < want {
			t.Errorf("%s: only %d times", name, count[name])
		}
	}
}

// All schedules of threads that call again and again, without end. The more places there are, the fewer elements differ:
// the states are as many as the orders of elements in the queue.
func TestAllSchedules(t *testing.T) {
	for places := 1; places <= api.MaxRing; places++ {
		wantAll(t, places, true, takes(1), puts(0, 1))
		wantAll(t, places, true, nil, puts(2, 1), nil, takes(1))
		if places <= 5 {
			wantAll(t, places, true, puts(0, 2), takes(1))
		}
		if places <= 3 {
			wantAll(t, places, true, nil, takes(1), puts(2, 4))
		}
	}
}

// All schedules of a few calls, among which those of other codes.
func TestAllSchedulesOfFewCalls(t *testing.T) {
	for places := 1; places <= 3; places++ {
		for count := range 6 {
			wantAll(t, places, false, takes(5-count), puts(0, count), []api.Call{touches(2, 5), {Code: fail}})
			wantAll(t, places, false, puts(0, count+1), takes(6-count))
			wantAll(t, places, false, puts(0, 6), nil, takes(count), []api.Call{{Code: nothing}})
		}
	}
}

// wantAll: all states that these threads can reach are good.
func wantAll(t *testing.T, places int, again bool, threads ...[]api.Call) {
	t.Helper()
	x := newRing(places, threads...)
	monitor, notes := trial.Watch(threads, queue{}, next(places))
	got := explore.Search[string]{
		Machine: x.Machine, Again: again, Steps: bound, Most: 1 << 17, Note: monitor.After,
	}.Run(notes)
	t.Logf("%d places: %v: %d states", places, threads, got.States)
	if !got.All || got.Wrong != nil {
		t.Errorf("%d places: %v: not all schedules are good: %v", places, threads, got)
	}
}
