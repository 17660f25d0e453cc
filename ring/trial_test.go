package ring

import (
	"fmt"
	"slices"
	"testing"

	"barograph/api"
	"barograph/lin"
	"barograph/trial"
)

const bound = 80 // of P13.2

// The codes of a trial: those of the ring, and others.
const (
	put     = iota
	take    // removes an element
	touch   // writes a word behind those of the ring and tells what is there
	fail    // ends with an error
	nothing // has no instructions
)

// ring: a trial of a queue.
type ring struct {
	trial.Trial
	places int
}

// newRing: with a word for each thread behind those of the queue.
func newRing(places int, threads ...[]api.Call) *ring {
	words, _ := Words(places)
	putting, _ := Put(places)
	taking, _ := Take(places)
	return &ring{trial.Trial{Machine: api.Machine{
		Words: append(words, make([]int, api.MaxThreads)...), Threads: threads,
		Codes: [][]api.Op{put: putting, take: taking, touch: trial.Touch(len(words)), fail: trial.Fail(), nothing: nil},
	}}, places}
}

// pair: of all the threads, the one that puts and the one that takes.
type pair struct {
	threads, producer, consumer int
}

// pairs returns all that there are.
func pairs() []pair {
	var l []pair
	for threads := 2; threads <= api.MaxThreads; threads++ {
		for producer := range threads {
			for consumer := range threads {
				if producer != consumer {
					l = append(l, pair{threads, producer, consumer})
				}
			}
		}
	}
	return l
}

// ring returns one for the pair, in which the other threads have calls of other codes if their number is odd.
func (p pair) ring(places int, puts, takes []api.Call) *ring {
	var calls [][]api.Call
	for thread := range p.threads {
		var others []api.Call
		if thread%2 == 1 {
			others = []api.Call{{Code: fail}, touches(thread, 3), {Code: nothing}, touches(thread, 5)}
		}
		calls = append(calls, others)
	}
	calls[p.producer], calls[p.consumer] = puts, takes
	return newRing(places, calls...)
}

// others lets those that are neither of the two perform so many steps each.
func (p pair) others(x *ring, count int) {
	x.Turns(count, x.Others(p.producer, p.consumer)...)
}

// puts: so many, of different elements and of equal ones.
func puts(from, count int) []api.Call {
	var l []api.Call
	for i := range count {
		l = append(l, api.Call{Code: put, Args: []int{elements[(from+i)%len(elements)]}})
	}
	return l
}

func takes(count int) []api.Call {
	return slices.Repeat([]api.Call{{Code: take}}, count)
}

// touches: of the word of this thread.
func touches(thread, number int) api.Call {
	return api.Call{Code: touch, Args: []int{thread, number}}
}

// queue: its elements, the first one first.
type queue struct {
	count    int
	elements [api.MaxRing]int
}

// next says what calls do in a queue with so many places (P13.1).
func next(places int) func(queue, trial.Call) (queue, bool) {
	return func(q queue, c trial.Call) (queue, bool) {
		told := 0
		switch c.Code {
		case put:
			if q.count < places {
				q.elements[q.count] = c.Args[0]
				q.count++
				told = 1
			}
		case take:
			told = -1
			if q.count > 0 {
				told = q.elements[0]
				copy(q.elements[:], q.elements[1:q.count])
				q.count--
				q.elements[q.count] = 0
			}
		default:
			return q, true
		}
		return q, !c.Ended() || c.Failed == api.OK && slices.Equal(c.Told, []int{told})
	}
}

// own returns the calls of the queue.
func own(calls []trial.Call) []trial.Call {
	return slices.DeleteFunc(slices.Clone(calls), func(c trial.Call) bool { return c.Code != put && c.Code != take })
}

// acts: the calls of the queue for package lin, for which no queue is full.
func acts(calls []trial.Call) []api.Act {
	var l []api.Act
	for _, c := range own(calls) {
		a := api.Act{Begin: c.Begin, End: c.End, Put: c.Code == put}
		switch {
		case a.Put && c.Ended() && c.Told[0] == 0:
			continue
		case a.Put:
			a.Value = c.Args[0]
		case c.Ended():
			a.Value = c.Told[0]
		}
		l = append(l, a)
	}
	return l
}

// wrong says what contradicts P13.2, or nothing.
func wrong(places int, calls []trial.Call) string {
	for _, c := range calls {
		if c.Code == touch && c.Ended() && !slices.Equal(c.Told, c.Args[1:]) {
			return fmt.Sprint("a word behind those of the queue has changed: ", c)
		}
	}
	calls = own(calls)
	for _, c := range calls {
		if c.Ended() && (c.Failed != api.OK || len(c.Told) != 1) {
			return fmt.Sprint("a call has failed, or tells not just one number: ", c)
		}
		if c.Steps > bound || c.Steps == bound && !c.Ended() {
			return fmt.Sprint("a call takes too many steps: ", c)
		}
	}
	if !trial.Linear(calls, queue{}, next(places)) {
		return fmt.Sprint("no queue: ", calls)
	}
	if l := acts(calls); len(l) <= api.MaxActs {
		if good, e := lin.Check(api.Queue, 0, l); !good || e != api.OK {
			return fmt.Sprintf("package lin says %t, %d: %v", good, e, l)
		}
	}
	return ""
}

// wantGood plays the machine and examines the calls, which it returns.
func (x *ring) wantGood(t *testing.T, name string) []trial.Call {
	t.Helper()
	calls, words, e := x.Calls()
	if e != api.OK || len(words) != len(x.Words) {
		t.Fatalf("%s: Calls = %v, %d", name, words, e)
	}
	if text := wrong(x.places, calls); text != "" {
		t.Fatalf("%s: %d places: %s, under %v", name, x.places, text, x.Schedule)
	}
	return calls
}

// wantEnded: the same, when all calls of these threads must have ended.
func (x *ring) wantEnded(t *testing.T, name string, threads ...int) []trial.Call {
	t.Helper()
	calls := x.wantGood(t, name)
	for _, i := range threads {
		ended := 0
		for _, c := range calls {
			if c.Ended() && c.Thread == i {
				ended++
			}
		}
		if want := len(x.Threads[i]); ended != want {
			t.Fatalf("%s: %d of %d calls of thread %d have ended, under %v", name, ended, want, i, x.Schedule)
		}
	}
	return calls
}

// calls lets a thread end so many calls. The first one may be in progress.
func (x *ring) calls(thread, count int) {
	for range count {
		now := len(x.Schedule)
		x.Steps(thread, bound)
		calls, _, _ := x.Calls()
		for _, c := range calls {
			if c.Thread == thread && c.End >= now {
				x.Schedule = x.Schedule[:c.End+1]
				break
			}
		}
	}
}

// rest lets the threads end all their calls in this order.
func (x *ring) rest(threads ...int) {
	for _, i := range threads {
		x.Steps(i, bound*len(x.Threads[i]))
	}
}

// told returns what the calls of a thread have told, one behind the other.
func told(calls []trial.Call, thread int) []int {
	var l []int
	for _, c := range calls {
		if c.Thread == thread {
			l = append(l, c.Told...)
		}
	}
	return l
}

// What has to be found is found.
func TestWrong(t *testing.T) {
	inserts := func(begin, end, element int, told ...int) trial.Call {
		return trial.Call{Call: api.Call{Code: put, Args: []int{element}}, Begin: begin, End: end, Told: told}
	}
	removes := func(begin, end int, told ...int) trial.Call {
		return trial.Call{Call: api.Call{Code: take}, Thread: 1, Begin: begin, End: end, Told: told}
	}
	failed := func(c trial.Call) trial.Call { c.Failed = api.ErrRange; return c }
	steps := func(c trial.Call, steps int) trial.Call { c.Steps = steps; return c }
	touched := func(told int) trial.Call { return trial.Call{Call: touches(0, 4), Told: []int{told}} }
	for _, c := range []struct {
		name   string
		good   bool
		places int
		calls  []trial.Call
	}{
		{"nothing", true, 1, nil},
		{"empty at first", true, 1, []trial.Call{removes(0, 1, -1)}},
		{"not empty at first", false, 1, []trial.Call{removes(0, 1, 0)}},
		{"in order", true, 2, []trial.Call{inserts(0, 1, 5, 1), inserts(2, 3, 6, 1), removes(4, 5, 5), removes(6, 7, 6), removes(8, 9, -1)}},
		{"in the other order", false, 2, []trial.Call{inserts(0, 1, 5, 1), inserts(2, 3, 6, 1), removes(4, 5, 6), removes(6, 7, 5)}},
		{"twice", false, 2, []trial.Call{inserts(0, 1, 5, 1), removes(4, 5, 5), removes(6, 7, 5)}},
		{"lost", false, 2, []trial.Call{inserts(0, 1, 5, 1), inserts(2, 3, 6, 1), removes(4, 5, 6)}},
		{"not found", false, 2, []trial.Call{inserts(0, 1, 5, 1), removes(2, 3, -1)}},
		{"full", true, 1, []trial.Call{inserts(0, 1, 5, 1), inserts(2, 3, 6, 0), removes(4, 5, 5), removes(6, 7, -1)}},
		{"not full", false, 2, []trial.Call{inserts(0, 1, 5, 1), inserts(2, 3, 6, 0)}},
		{"more than full", false, 1, []trial.Call{inserts(0, 1, 5, 1), inserts(2, 3, 6, 1)}},
		{"full, but inserted", false, 1, []trial.Call{inserts(0, 1, 5, 1), inserts(2, 3, 6, 0), removes(4, 5, 5), removes(6, 7, 6)}},
		{"full before a Take", true, 1, []trial.Call{inserts(0, 1, 5, 1), inserts(2, 5, 6, 0), removes(4, 6, 5)}},
		{"not full before a Take", true, 1, []trial.Call{inserts(0, 1, 5, 1), inserts(2, 5, 6, 1), removes(4, 6, 5)}},
		{"not full behind a Take", false, 1, []trial.Call{inserts(0, 1, 5, 1), inserts(5, 6, 6, 0), removes(2, 4, 5)}},
		{"full although a Take has not ended", true, 1, []trial.Call{inserts(0, 1, 5, 1), inserts(5, 6, 6, 0), removes(2, trial.Open)}},
		{"not full as a Take has not ended", true, 1, []trial.Call{inserts(0, 1, 5, 1), inserts(5, 6, 6, 1), removes(2, trial.Open)}},
		{"a Take that has not ended removes no two", false, 1, []trial.Call{inserts(0, 1, 5, 1), inserts(5, 6, 6, 1), inserts(7, 8, 7, 1), removes(2, trial.Open)}},
		{"empty before a Put", true, 1, []trial.Call{inserts(0, 5, 5, 1), removes(4, 6, -1)}},
		{"empty although a Put has not ended", true, 1, []trial.Call{inserts(0, trial.Open, 5), removes(4, 6, -1)}},
		{"not empty as a Put has not ended", true, 1, []trial.Call{inserts(0, trial.Open, 5), removes(4, 6, 5)}},
		{"of a Put that has not begun", false, 1, []trial.Call{inserts(5, 6, 5, 1), removes(2, 4, 5)}},
		{"equal ones", true, 2, []trial.Call{inserts(0, 1, 5, 1), inserts(2, 3, 5, 1), removes(4, 5, 5), removes(6, 7, 5), removes(8, 9, -1)}},
		{"equal ones, one too many", false, 2, []trial.Call{inserts(0, 1, 5, 1), inserts(2, 3, 5, 1), removes(4, 5, 5), removes(6, 7, 5), removes(8, 9, 5)}},
		{"a Put tells its element", false, 1, []trial.Call{inserts(0, 1, 5, 5)}},
		{"a Put fails", false, 1, []trial.Call{failed(inserts(0, 1, 5, 1))}},
		{"a Take fails", false, 1, []trial.Call{failed(removes(0, 1, -1))}},
		{"another code fails", true, 1, []trial.Call{failed(trial.Call{Call: api.Call{Code: fail}})}},
		{"a Put tells nothing", false, 1, []trial.Call{inserts(0, 1, 5)}},
		{"a Take tells two numbers", false, 1, []trial.Call{removes(0, 1, -1, -1)}},
		{"as long as possible", true, 1, []trial.Call{steps(inserts(0, 99, 5, 1), bound)}},
		{"too long", false, 1, []trial.Call{steps(removes(0, 99, -1), bound+1)}},
		{"not ended in time", false, 1, []trial.Call{steps(inserts(0, trial.Open, 5), bound)}},
		{"not ended yet", true, 1, []trial.Call{steps(removes(0, trial.Open), bound-1)}},
		{"a word behind", true, 1, []trial.Call{touched(4)}},
		{"a word behind has changed", false, 1, []trial.Call{touched(5)}},
		{"more than package lin takes", true, 1, slices.Repeat([]trial.Call{removes(0, 4, -1)}, api.MaxActs+1)},
	} {
		if text := wrong(c.places, c.calls); (text == "") != c.good {
			t.Errorf("%s: %q", c.name, text)
		}
	}
}
