package cell

import (
	"fmt"
	"math/rand"
	"slices"
	"testing"

	"barograph/api"
	"barograph/lin"
	"barograph/run"
)

const (
	bound = 80 // of P10.3
	open  = -1 // the end of a call that has not ended
)

// act: a call of a run.
type act struct {
	begin, end int // steps of the run
	put        bool
	record     []int // what is stored or told
	code       api.Errno
	steps      int // those that the thread has executed in the call
	quiet      int // those of them during which no Put was in progress
}

func (a act) ended() bool { return a.end != open }

// record returns the numbers that the n-th Put stores, from n = 1 on. No two records have a number in common.
func record(wide, n int) []int {
	l := make([]int, wide)
	for i := range l {
		l[i] = 100*n + i
	}
	return l
}

// trial: a machine in which the code 0 is Put, and the code 1 is Get.
type trial struct {
	api.Machine
	wide int
}

func newTrial(t *testing.T, wide int, threads ...[]api.Call) trial {
	t.Helper()
	words, d := Words(wide)
	put, e := Put(wide)
	get, f := Get(wide)
	if d != api.OK || e != api.OK || f != api.OK {
		t.Fatalf("wide %d: the errors %d, %d, %d", wide, d, e, f)
	}
	return trial{api.Machine{Words: words, Codes: [][]api.Op{put, get}, Threads: threads}, wide}
}

func puts(records ...[]int) []api.Call {
	var l []api.Call
	for _, r := range records {
		l = append(l, api.Call{Code: 0, Args: r})
	}
	return l
}

func gets(count int) []api.Call {
	return slices.Repeat([]api.Call{{Code: 1}}, count)
}

// written: count Puts of different records.
func written(wide, count int) []api.Call {
	var records [][]int
	for n := range count {
		records = append(records, record(wide, n+1))
	}
	return puts(records...)
}

// history returns the calls of a run in the order of their beginnings.
func history(m api.Machine, schedule []int, events []api.Event) []act {
	var acts []act
	now := map[int]int{} // the act of each thread that is within a call
	for step, thread := range schedule {
		for len(events) > 0 && events[0].Step == step && !events[0].End {
			c := m.Threads[thread][events[0].Call]
			now[thread] = len(acts)
			acts = append(acts, act{begin: step, end: open, put: c.Code == 0, record: c.Args})
			events = events[1:]
		}
		if i, within := now[thread]; within {
			acts[i].steps++
			if !putting(acts, now) {
				acts[i].quiet++
			}
		}
		for len(events) > 0 && events[0].Step == step {
			a := &acts[now[thread]]
			a.end, a.code = step, events[0].Code
			if told := events[0].Told; !a.put || len(told) > 0 {
				a.record = told
			}
			delete(now, thread)
			events = events[1:]
		}
	}
	return acts
}

func putting(acts []act, now map[int]int) bool {
	for _, i := range now {
		if acts[i].put {
			return true
		}
	}
	return false
}

// wrong says what contradicts the document, or nothing.
func wrong(wide int, stored []api.Call, acts []act) string {
	begun := 0
	for i, a := range acts {
		name := fmt.Sprintf("call %d (from %d to %d)", i, a.begin, a.end)
		if a.code != api.OK {
			return fmt.Sprint(name, " ends with the error ", a.code)
		}
		counted := a.quiet
		if a.put {
			counted = a.steps
			if !slices.Equal(a.record, stored[begun].Args) {
				return fmt.Sprint(name, " is a Put that tells ", a.record)
			}
			begun++
		}
		if counted > bound || counted == bound && !a.ended() {
			return fmt.Sprint(name, " takes ", counted, " steps or more")
		}
	}
	return disorder(wide, acts)
}

// disorder compares whole records. The Puts are one behind the other, so that it suffices to find for each Get the
// number of the Put whose record it tells: of one that has begun, not before one that had ended when the Get began, and
// not before the one of a Get that had ended by then. The least such number leaves most to the Gets that follow.
func disorder(wide int, acts []act) string {
	records := [][]int{make([]int, wide)}
	for _, a := range acts {
		if a.put {
			records = append(records, a.record)
		}
	}
	numbers := make([]int, len(acts))
	for i, a := range acts {
		if a.put {
			numbers[i] = 1
			for _, b := range acts[:i] {
				numbers[i] += truth(b.put)
			}
			continue
		}
		if !a.ended() {
			continue
		}
		low, high := 0, 0
		for j, b := range acts {
			if b.ended() && b.end < a.begin {
				low = max(low, numbers[j])
			}
			high += truth(b.put && b.begin <= a.end)
		}
		n := low
		for n <= high && !slices.Equal(records[n], a.record) {
			n++
		}
		if n > high {
			return fmt.Sprintf("call %d (from %d to %d) tells %v, and not one of %v", i, a.begin, a.end, a.record, records[low:high+1])
		}
		numbers[i] = n
	}
	return ""
}

func truth(holds bool) int {
	if holds {
		return 1
	}
	return 0
}

// acceptable is package lin's answer, with a single number in place of each record. It is not asked about histories
// that are too long for it.
func acceptable(t *testing.T, wide int, acts []act) bool {
	t.Helper()
	if len(acts) > api.MaxActs {
		return true
	}
	known := [][]int{make([]int, wide)}
	var l []api.Act
	for _, a := range acts {
		same := func(r []int) bool { return slices.Equal(r, a.record) }
		n := slices.IndexFunc(known, same)
		if n < 0 {
			n = len(known)
			known = append(known, a.record)
		}
		l = append(l, api.Act{Begin: a.begin, End: a.end, Put: a.put, Value: n})
	}
	ok, e := lin.Check(api.Register, 0, l)
	if e != api.OK {
		t.Fatalf("lin.Check = %d", e)
	}
	return ok
}

// stored: the calls of Put, all of one thread.
func (x trial) stored() []api.Call {
	var l []api.Call
	for _, c := range slices.Concat(x.Threads...) {
		if c.Code == 0 {
			l = append(l, c)
		}
	}
	return l
}

// wantGood plays the machine and examines the history, which it returns.
func wantGood(t *testing.T, name string, x trial, schedule []int) []act {
	t.Helper()
	events, _, e := run.Play(x.Machine, schedule)
	if e != api.OK {
		t.Fatalf("%s: Play = %d", name, e)
	}
	acts := history(x.Machine, schedule, events)
	if text := wrong(x.wide, x.stored(), acts); text != "" {
		t.Fatalf("%s: wide %d: %s, under %v", name, x.wide, text, schedule)
	}
	if !acceptable(t, x.wide, acts) {
		t.Fatalf("%s: wide %d: not linearizable: %v, under %v", name, x.wide, acts, schedule)
	}
	return acts
}

// The tests' own comparison finds what it has to find.
func TestDisorder(t *testing.T) {
	first, second := record(2, 1), record(2, 2)
	put := func(begin, end int, r []int) act { return act{begin: begin, end: end, put: true, record: r} }
	get := func(begin, end int, r ...int) act { return act{begin: begin, end: end, record: r} }
	for _, c := range []struct {
		name string
		good bool
		acts []act
	}{
		{"nothing", true, nil},
		{"the initial record", true, []act{get(0, 5, 0, 0)}},
		{"another initial record", false, []act{get(0, 5, 0, 1)}},
		{"too short", false, []act{get(0, 5, 0)}},
		{"too long", false, []act{get(0, 5, 0, 0, 0)}},
		{"after a Put", true, []act{put(0, 5, first), get(6, 8, first...)}},
		{"too old", false, []act{put(0, 5, first), get(6, 8, 0, 0)}},
		{"during a Put, the old one", true, []act{put(0, 5, first), get(4, 8, 0, 0)}},
		{"during a Put, the new one", true, []act{put(0, open, first), get(4, 8, first...)}},
		{"torn", false, []act{put(0, 5, first), get(4, 8, first[0], 0)}},
		{"torn between two Puts", false, []act{put(0, 5, first), put(6, 9, second), get(4, 8, second[0], first[1])}},
		{"of the future", false, []act{get(0, 2, first...), put(3, 5, first)}},
		{"new and then old", false, []act{put(0, 20, first), get(1, 3, first...), get(4, 6, 0, 0)}},
		{"new and at the same time old", true, []act{put(0, 20, first), get(1, 5, first...), get(4, 6, 0, 0)}},
		{"old and then new", true, []act{put(0, 20, first), get(1, 3, 0, 0), get(4, 6, first...)}},
		{"the same record again", true, []act{put(0, 5, first), put(6, 10, second), put(11, 20, first), get(7, 12, second...), get(13, 14, first...)}},
		{"the same record again and then old", false, []act{put(0, 5, first), put(6, 10, second), put(11, 20, first), get(11, 12, first...), get(13, 14, second...), get(15, 16, first...), get(17, 18, second...)}},
		{"not ended", true, []act{put(0, 5, first), get(6, open), get(7, 9, first...)}},
	} {
		if text := disorder(2, c.acts); (text == "") != c.good {
			t.Errorf("%s: %q", c.name, text)
		}
		if got := acceptable(t, 2, c.acts); got != c.good {
			t.Errorf("%s: package lin says %t", c.name, got)
		}
	}
}

// It agrees with package lin also on histories that no record leads to.
func TestDisorderOfMixedHistories(t *testing.T) {
	count := map[bool]int{}
	for seed := range 20000 {
		r := rand.New(rand.NewSource(int64(seed)))
		var acts []act
		time := 0
		for range r.Intn(5) {
			begin := time + r.Intn(3)
			time = begin + 1 + r.Intn(5)
			acts = append(acts, act{begin: begin, end: time - 1, put: true, record: []int{r.Intn(3)}})
		}
		if n := len(acts); n > 0 && r.Intn(2) == 0 {
			acts[n-1].end = open
		}
		for range r.Intn(5) {
			begin := r.Intn(12)
			a := act{begin: begin, end: begin + r.Intn(6), record: []int{r.Intn(3)}}
			if r.Intn(6) == 0 {
				a.end = open
			}
			acts = append(acts, a)
		}
		slices.SortStableFunc(acts, func(a, b act) int { return a.begin - b.begin })
		good := disorder(1, acts) == ""
		count[good]++
		if acceptable(t, 1, acts) != good {
			t.Fatalf("seed %d: %t: %v", seed, good, acts)
		}
	}
	if min(count[true], count[false]) < 1000 {
		t.Errorf("so many of each: %v", count)
	}
}

// The steps are counted as P10.3 says.
func TestHistorySteps(t *testing.T) {
	code := slices.Repeat([]api.Op{{Kind: api.Set}}, 3)
	m := api.Machine{Codes: [][]api.Op{code, code}, Threads: [][]api.Call{puts([]int{1}, []int{2}), gets(2)}}
	schedule := []int{1, 0, 1, 0, 0, 1, 1, 1, 1, 1, 0}
	events, _, _ := run.Play(m, schedule)
	want := []act{
		{begin: 0, end: 5, steps: 3, quiet: 2},
		{begin: 1, end: 4, put: true, record: []int{1}, steps: 3},
		{begin: 6, end: 8, steps: 3, quiet: 3},
		{begin: 10, end: open, put: true, record: []int{2}, steps: 1},
	}
	if got := history(m, schedule, events); fmt.Sprint(got) != fmt.Sprint(want) {
		t.Errorf("history = %v, want %v", got, want)
	}
}

// What is counted is compared with the bound.
func TestWrongSteps(t *testing.T) {
	for _, c := range []struct {
		name string
		good bool
		act  act
	}{
		{"a Put", true, act{end: 200, put: true, record: []int{1}, steps: bound}},
		{"a long Put", false, act{end: 200, put: true, record: []int{1}, steps: bound + 1}},
		{"an open Put", true, act{end: open, put: true, record: []int{1}, steps: bound - 1}},
		{"a long open Put", false, act{end: open, put: true, record: []int{1}, steps: bound}},
		{"a Put that tells something", false, act{end: 200, put: true, record: []int{2}, steps: 1}},
		{"a Put with an error", false, act{end: 200, put: true, record: []int{1}, code: api.ErrRange}},
		{"a Get", true, act{end: 200, record: []int{0}, steps: 200, quiet: bound}},
		{"a long Get", false, act{end: 200, record: []int{0}, steps: 200, quiet: bound + 1}},
		{"an open Get", true, act{end: open, steps: 200, quiet: bound - 1}},
		{"a long open Get", false, act{end: open, steps: 200, quiet: bound}},
		{"a Get with an error", false, act{end: 200, record: []int{0}, code: api.ErrFull}},
		{"a torn Get", false, act{end: 200, record: []int{1}}},
	} {
		if text := wrong(1, puts([]int{1}), []act{c.act}); (text == "") != c.good {
			t.Errorf("%s: %q", c.name, text)
		}
	}
}
