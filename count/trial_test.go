package count

import (
	"fmt"
	"math"
	"slices"
	"testing"

	"barograph/api"
	"barograph/lin"
	"barograph/trial"
)

const bound = 60 // of P12.2

// The codes of a trial: those of the counter, and others.
const (
	add     = iota
	get     // tells the value
	touch   // writes a word behind those of the counter and tells what is there
	fail    // ends with an error
	nothing // has no instructions
)

// newTrial: with a word for each thread behind those of the counter.
func newTrial(threads ...[]api.Call) *trial.Trial {
	words := Words()
	return &trial.Trial{Machine: api.Machine{
		Words: append(words, make([]int, api.MaxThreads)...), Threads: threads,
		Codes: [][]api.Op{add: Add(), get: Get(), touch: trial.Touch(len(words)), fail: trial.Fail(), nothing: nil},
	}}
}

func adds(numbers ...int) []api.Call {
	var l []api.Call
	for _, n := range numbers {
		l = append(l, api.Call{Code: add, Args: []int{n}})
	}
	return l
}

func gets(count int) []api.Call {
	return slices.Repeat([]api.Call{{Code: get}}, count)
}

// touches: of the word of this thread.
func touches(thread, number int) api.Call {
	return api.Call{Code: touch, Args: []int{thread, number}}
}

// script returns calls of a thread: it adds different numbers, and gets now and then.
func script(thread, count int) []api.Call {
	var l []api.Call
	for i := range count {
		if (i+thread)%3 == 2 {
			l = append(l, gets(1)...)
		} else {
			l = append(l, adds(edges[(5*thread+i)%len(edges)])...)
		}
	}
	return l
}

// scripts: of so many threads.
func scripts(threads, count int) [][]api.Call {
	var l [][]api.Call
	for thread := range threads {
		l = append(l, script(thread, count))
	}
	return l
}

// next is the counter of P9.2.
func next(value int, c trial.Call) (int, bool) {
	fits := !c.Ended() || c.Told[0] == value
	if c.Code == add {
		value += c.Args[0]
	}
	return value, fits
}

// acts: the calls for package lin.
func acts(calls []trial.Call) []api.Act {
	var l []api.Act
	for _, c := range calls {
		a := api.Act{Begin: c.Begin, End: c.End, Put: c.Code == add}
		if a.Put {
			a.By = c.Args[0]
		}
		if c.Ended() {
			a.Value = c.Told[0]
		}
		l = append(l, a)
	}
	return l
}

// wrong says what contradicts P12.2, or nothing.
func wrong(calls []trial.Call) string {
	for _, c := range calls {
		if c.Code == touch && c.Ended() && !slices.Equal(c.Told, c.Args[1:]) {
			return fmt.Sprint("a word behind those of the counter has changed: ", c)
		}
	}
	calls = slices.DeleteFunc(slices.Clone(calls), func(c trial.Call) bool { return c.Code != add && c.Code != get })
	for _, c := range calls {
		if c.Ended() && (c.Failed != api.OK || len(c.Told) != 1) {
			return fmt.Sprint("a call has failed, or tells not just one number: ", c)
		}
		if c.Alone > bound || c.Alone == bound && !c.Ended() {
			return fmt.Sprint("a call takes too many steps alone: ", c)
		}
	}
	linear := trial.Linear(calls, 0, next)
	if len(calls) <= api.MaxActs {
		if same, e := lin.Check(api.Counter, 0, acts(calls)); same != linear || e != api.OK {
			return fmt.Sprintf("package lin says %t, %d: %v", same, e, calls)
		}
	}
	if !linear {
		return fmt.Sprint("not linearizable: ", calls)
	}
	return ""
}

// wantGood plays the machine and examines the calls, which it returns.
func wantGood(t *testing.T, name string, x *trial.Trial) []trial.Call {
	t.Helper()
	calls, words, e := x.Calls()
	if e != api.OK || len(words) != len(x.Words) {
		t.Fatalf("%s: Calls = %v, %d", name, words, e)
	}
	if text := wrong(calls); text != "" {
		t.Fatalf("%s: %s, under %v", name, text, x.Schedule)
	}
	return calls
}

// wantEnded: the same, when all calls of these threads must have ended.
func wantEnded(t *testing.T, name string, x *trial.Trial, threads ...int) []trial.Call {
	t.Helper()
	calls := wantGood(t, name, x)
	ended, want := 0, 0
	for _, i := range threads {
		want += len(x.Threads[i])
	}
	for _, c := range calls {
		if c.Ended() && slices.Contains(threads, c.Thread) {
			ended++
		}
	}
	if ended != want {
		t.Fatalf("%s: %d of %d calls have ended, under %v", name, ended, want, x.Schedule)
	}
	return calls
}

// rest lets the threads end their calls in this order.
func rest(x *trial.Trial, threads ...int) {
	for _, i := range threads {
		x.Steps(i, bound*len(x.Threads[i]))
	}
}

// What has to be found is found.
func TestWrong(t *testing.T) {
	plus := func(thread, begin, end, number int, told ...int) trial.Call {
		return trial.Call{Call: adds(number)[0], Thread: thread, Begin: begin, End: end, Told: told}
	}
	value := func(thread, begin, end int, told ...int) trial.Call {
		return trial.Call{Call: gets(1)[0], Thread: thread, Begin: begin, End: end, Told: told}
	}
	failed := func(c trial.Call) trial.Call { c.Failed = api.ErrRange; return c }
	alone := func(c trial.Call, steps int) trial.Call { c.Steps, c.Alone = 200, steps; return c }
	touched := func(told int) trial.Call { return trial.Call{Call: touches(0, 4), Told: []int{told}} }
	for _, c := range []struct {
		name  string
		good  bool
		calls []trial.Call
	}{
		{"nothing", true, nil},
		{"the first value", true, []trial.Call{value(0, 0, 2, 0)}},
		{"another first value", false, []trial.Call{value(0, 0, 2, 1)}},
		{"the value before", true, []trial.Call{plus(0, 0, 4, 5, 0), plus(1, 5, 9, 3, 5)}},
		{"the value behind", false, []trial.Call{plus(0, 0, 4, 5, 5)}},
		{"lost", false, []trial.Call{plus(0, 0, 9, 5, 0), plus(1, 0, 9, 3, 0)}},
		{"in the other order", true, []trial.Call{plus(0, 0, 9, 5, 3), plus(1, 0, 9, 3, 0)}},
		{"too late", false, []trial.Call{plus(0, 0, 4, 5, 3), plus(1, 5, 9, 3, 0)}},
		{"too old", false, []trial.Call{plus(0, 0, 4, 5, 0), value(1, 5, 9, 0)}},
		{"of the future", false, []trial.Call{value(1, 0, 4, 5), plus(0, 5, 9, 5, 0)}},
		{"new and then old", false, []trial.Call{plus(0, 0, 9, 5, 0), value(1, 1, 2, 5), value(2, 3, 4, 0)}},
		{"wrapped around", true, []trial.Call{plus(0, 0, 4, math.MaxInt, 0), plus(1, 5, 9, 2, math.MaxInt), value(0, 10, 11, math.MinInt+1)}},
		{"not ended, with effect", true, []trial.Call{plus(0, 0, trial.Open, 5), value(1, 1, 2, 5)}},
		{"not ended, without effect", true, []trial.Call{plus(0, 0, trial.Open, 5), value(1, 1, 2, 0)}},
		{"not ended, effect taken back", false, []trial.Call{plus(0, 0, trial.Open, 5), value(1, 1, 2, 5), value(1, 3, 4, 0)}},
		{"an Add fails", false, []trial.Call{failed(plus(0, 0, 4, 5, 0))}},
		{"a Get fails", false, []trial.Call{failed(value(0, 0, 4, 0))}},
		{"another code fails", true, []trial.Call{failed(trial.Call{Call: api.Call{Code: fail}})}},
		{"an Add tells nothing", false, []trial.Call{plus(0, 0, 4, 5)}},
		{"a Get tells two numbers", false, []trial.Call{value(0, 0, 4, 0, 0)}},
		{"as long as possible", true, []trial.Call{alone(plus(0, 0, 4, 5, 0), bound)}},
		{"too long", false, []trial.Call{alone(value(0, 0, 4, 0), bound+1)}},
		{"not ended in time", false, []trial.Call{alone(plus(0, 0, trial.Open, 5), bound)}},
		{"not ended yet", true, []trial.Call{alone(plus(0, 0, trial.Open, 5), bound-1)}},
		{"a word behind", true, []trial.Call{touched(4)}},
		{"a word behind has changed", false, []trial.Call{touched(5)}},
		{"more than package lin takes", true, slices.Repeat([]trial.Call{value(0, 0, 4, 0)}, api.MaxActs+1)},
	} {
		if text := wrong(c.calls); (text == "") != c.good {
			t.Errorf("%s: %q", c.name, text)
		}
	}
}
