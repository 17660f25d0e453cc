package lock

import (
	"fmt"
	"math"
	"slices"
	"testing"

	"barograph/api"
	"barograph/vm"
)

// codes: the functions that return one.
var codes = map[string]func(int) ([]api.Op, api.Errno){"Enter": Enter, "Leave": Leave}

// P11.1
func TestLimits(t *testing.T) {
	for threads := 1; threads <= api.MaxThreads; threads++ {
		words, e := Words(threads)
		if e != api.OK || len(words) < 1 || len(words) > 64 {
			t.Errorf("Words(%d) = %v, %d", threads, words, e)
		}
		for name, f := range codes {
			code, e := f(threads)
			if e != api.OK || len(code) < 1 || !vm.May(code) {
				t.Errorf("%s(%d) = %v, %d", name, threads, code, e)
			}
			if slices.ContainsFunc(code, func(o api.Op) bool { return o.Kind == api.Cas }) {
				t.Errorf("%s(%d) has a Cas: %v", name, threads, code)
			}
		}
	}
}

func TestWrongNumbersOfThreads(t *testing.T) {
	for _, threads := range []int{0, -1, -2, -4, api.MaxThreads + 1, api.MaxThreads + 2, 8, 64, 200, 1 << 32, 1<<32 + 1, math.MinInt, math.MinInt + 1, math.MaxInt} {
		if words, e := Words(threads); e != api.ErrRange || len(words) != 0 {
			t.Errorf("Words(%d) = %v, %d", threads, words, e)
		}
		for name, f := range codes {
			if code, e := f(threads); e != api.ErrRange || len(code) != 0 {
				t.Errorf("%s(%d) = %v, %d", name, threads, code, e)
			}
		}
	}
}

// Results are new each time, and calls do not depend on earlier ones.
func TestResultsAreNew(t *testing.T) {
	for threads := 1; threads <= api.MaxThreads; threads++ {
		words, _ := Words(threads)
		enter, _ := Enter(threads)
		leave, _ := Leave(threads)
		before := fmt.Sprint(words, enter, leave)
		for other := -1; other <= api.MaxThreads+1; other++ {
			w, _ := Words(other)
			for i := range w[:cap(w)] {
				w[:cap(w)][i] = 9
			}
			for _, f := range codes {
				code, _ := f(other)
				clear(code[:cap(code)])
			}
		}
		if now := fmt.Sprint(words, enter, leave); now != before {
			t.Errorf("%d threads: the results became %s, want %s", threads, now, before)
		}
		w, _ := Words(threads)
		e, _ := Enter(threads)
		l, _ := Leave(threads)
		if now := fmt.Sprint(w, e, l); now != before {
			t.Errorf("%d threads: the next results are %s, want %s", threads, now, before)
		}
	}
}

// lone: a lock that is used by one call after the other.
type lone struct {
	t       *testing.T
	threads int
	words   []int
}

// call returns the error of a call that nobody interrupts. If it does not end, it has not been made.
func (l *lone) call(name string, thread int) api.Errno {
	l.t.Helper()
	code, _ := codes[name](l.threads)
	told, after, _, e := vm.Run(code, []int{thread}, l.words, 600)
	if len(told) > 0 || len(after) != len(l.words) {
		l.t.Errorf("%d threads, %s of %d: tells %v, and the words are %v", l.threads, name, thread, told, after)
	}
	if e == api.OK {
		l.words = after
	}
	return e
}

// round: while the thread is inside, nobody else can enter.
func (l *lone) round(thread int) {
	l.t.Helper()
	if e := l.call("Enter", thread); e != api.OK {
		l.t.Fatalf("%d threads: Enter of %d = %d", l.threads, thread, e)
	}
	for other := range l.threads {
		if other == thread {
			continue
		}
		if e := l.call("Enter", other); e != api.ErrOver {
			l.t.Fatalf("%d threads: Enter of %d while %d is inside = %d", l.threads, other, thread, e)
		}
	}
	if e := l.call("Leave", thread); e != api.OK {
		l.t.Fatalf("%d threads: Leave of %d = %d", l.threads, thread, e)
	}
}

// P11.2 without overlapping calls. Each thread follows each one, itself included.
func TestRoundsAlone(t *testing.T) {
	for threads := 1; threads <= api.MaxThreads; threads++ {
		words, _ := Words(threads)
		l := lone{t, threads, words}
		for range 3 {
			for one := range threads {
				for other := range threads {
					l.round(one)
					l.round(other)
				}
			}
		}
	}
}
