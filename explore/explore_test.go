package explore

import (
	"fmt"
	"maps"
	"math"
	"math/rand"
	"slices"
	"testing"

	"barograph/api"
	"barograph/run"
	"barograph/vm"
)

const most = 1 << 20

// op takes the fields from A on; those that are left out are 0.
func op(kind int, fields ...int) api.Op {
	fields = append(slices.Clone(fields), 0, 0, 0, 0)
	return api.Op{Kind: kind, A: fields[0], B: fields[1], C: fields[2], D: fields[3]}
}

func anything(notes int, _ api.Event) (int, bool) { return notes, true }

// machine: each thread has so many calls of the code.
func machine(words []int, code []api.Op, calls ...int) api.Machine {
	m := api.Machine{Words: words, Codes: [][]api.Op{code}}
	for _, count := range calls {
		m.Threads = append(m.Threads, make([]api.Call, count))
	}
	return m
}

func wantStates(t *testing.T, name string, s Search[int], states int, all bool) {
	t.Helper()
	s.Note = anything
	if got := s.Run(0); got.States != states || got.All != all || got.Wrong != nil {
		t.Errorf("%s: Run = %v, want %d states, %t", name, got, states, all)
	}
}

func TestNumberOfStates(t *testing.T) {
	local, shared := op(api.Set, 1, 5), op(api.Load, 0, 2)
	for _, c := range []struct {
		name    string
		machine api.Machine
		states  int
	}{
		{"nothing", api.Machine{}, 1},
		{"no calls", machine([]int{1}, []api.Op{shared}, 0, 0), 1},
		{"a call without instructions", machine(nil, nil, 1), 2},
		{"calls without instructions", machine(nil, nil, 3, 2), 12},
		{"instructions without access", machine(nil, []api.Op{local, local, local}, 1), 2},
		{"many instructions without access", machine(nil, slices.Repeat([]api.Op{local}, api.MaxCode), 1), 2},
		{"one access", machine([]int{1}, []api.Op{local, shared, local, local}, 1), 2},
		{"three accesses", machine([]int{1}, []api.Op{local, shared, local, shared, shared, local}, 1), 4},
		{"three accesses, twice", machine([]int{1}, []api.Op{shared, shared, shared}, 2), 7},
		{"independent threads", machine([]int{1}, []api.Op{shared, shared, shared}, 1, 1, 1), 64},
		{"an access that fails", machine(nil, []api.Op{shared, shared, shared}, 1), 2},
		{"a call that does not end", machine([]int{1}, []api.Op{shared, shared, op(api.Jump, 0)}, 1), 3},
		{"a call that counts", machine([]int{0}, []api.Op{op(api.Set, 1, 1), op(api.Load, 0, 2), op(api.Add, 0, 0, 1), op(api.Store, 0, 2), op(api.Emit, 0)}, 3), 7},
	} {
		wantStates(t, c.name, Search[int]{Machine: c.machine, Most: most}, c.states, true)
	}
}

func TestMost(t *testing.T) {
	m := machine([]int{1}, slices.Repeat([]api.Op{op(api.Load, 0, 1)}, 10), 1)
	wantStates(t, "enough", Search[int]{Machine: m, Most: 12}, 11, true)
	for n := 2; n <= 10; n++ {
		wantStates(t, fmt.Sprint("at most ", n), Search[int]{Machine: m, Most: n}, n, false)
	}
	growing := []api.Op{op(api.Load, 0, 1), op(api.Add, 0, 0, 2), op(api.Set, 2, 1), op(api.Store, 0, 1), op(api.Jump, 0)}
	wantStates(t, "without end", Search[int]{Machine: machine([]int{1}, growing, 1), Most: 1000}, 1000, false)
}

// States are different if anything in them is.
func TestDifferentStates(t *testing.T) {
	var lists [][]int
	for _, n := range []int{0, 1, -1, 2, 63, 64, -64, -65, 127, 128, 255, 256, 1 << 13, 1 << 14, 1 << 32, math.MaxInt, math.MinInt} {
		lists = append(lists, []int{n, 0}, []int{n, 3})
	}
	threads := []thread{{}, {call: 1}, {call: 200}, {steps: 1}, {steps: 200}}
	// The two instructions are executed again and again, so that it matters how much has been emitted.
	code := []api.Op{op(api.Emit, 0), op(api.Jump, 0)}
	for _, l := range lists {
		one, _ := vm.Begin(code, l)
		for range 6 {
			threads = append(threads, thread{Thread: one, within: true})
			one.Step(nil)
		}
		// What differs here is only what has been emitted.
		two, _ := vm.Begin([]api.Op{op(api.Emit, 0), op(api.Set, 0, 5), op(api.Emit, 0)}, l)
		two.Step(nil)
		two.Step(nil)
		threads = append(threads, thread{Thread: two, within: true})
	}
	visited := map[identity[bool]]bool{}
	for _, words := range lists {
		for _, one := range threads {
			for _, other := range threads[:11] {
				for _, notes := range []bool{false, true} {
					for range 2 {
						w := state[bool]{words, []thread{one, other}, notes}
						visited[w.identity()] = true
					}
				}
			}
		}
	}
	if got, want := len(visited), len(lists)*len(threads)*11*2; got != want {
		t.Errorf("%d different states, want %d", got, want)
	}
}

// What is written for a number, or for a list of a certain length, is the beginning of nothing else.
func TestWrittenNumbers(t *testing.T) {
	texts := map[string]string{}
	for n := -300; n <= 300; n++ {
		for shift := 0; shift < 64; shift++ {
			for _, m := range []int{n << shift, n + 1<<shift, n - 1<<shift} {
				texts[fmt.Sprint(m)] = string(number(nil, m))
			}
		}
	}
	wantApart(t, texts)
	clear(texts)
	for code := range 5 * 5 * 5 {
		l := []int{code%5 - 2, code/5%5 - 2, code/25 - 2}
		texts[fmt.Sprint(l)] = string(list(nil, l))
	}
	wantApart(t, texts)
}

// wantApart: no text is the beginning of another one, or the same.
func wantApart(t *testing.T, texts map[string]string) {
	t.Helper()
	names := map[string]string{}
	for name, text := range texts {
		if other, found := names[text]; found {
			t.Fatalf("%s is written as %s", name, other)
		}
		names[text] = name
	}
	for text, name := range names {
		for end := range []byte(text) {
			if other, found := names[text[:end]]; found {
				t.Fatalf("%s is written as the beginning of %s", other, name)
			}
		}
	}
}

// count: a code that adds 1 to the word 0 and emits the sum; it takes its time.
func count() []api.Op {
	return []api.Op{op(api.Set, 1, 1), op(api.Load, 0, 2), op(api.Add, 0, 0, 1), op(api.Store, 0, 2), op(api.Emit, 0)}
}

// A schedule that leads to the wrong event leads package run there too.
func TestWrong(t *testing.T) {
	for threads := 2; threads <= api.MaxThreads; threads++ {
		for value := range 8 {
			for calls := 1; calls <= 2; calls++ {
				m := machine([]int{0}, count(), slices.Repeat([]int{calls}, threads)...)
				last := func(e api.Event) bool { return e.Call == calls-1 && e.End && e.Told[0] == value }
				s := Search[int]{Machine: m, Most: most, Note: func(n int, e api.Event) (int, bool) { return n, !last(e) }}
				got := s.Run(0)
				if possible := calls <= value && value <= threads*calls; (got.Wrong != nil) != possible || got.All == possible {
					t.Fatalf("%d threads, %d calls: Run = %v, want one that tells %d: %t", threads, calls, got, value, possible)
				}
				if got.Wrong == nil {
					continue
				}
				events, _, _ := run.Play(m, got.Wrong)
				if n := len(events); n == 0 || !last(events[n-1]) || slices.ContainsFunc(events[:n-1], last) {
					t.Errorf("%d threads, %d calls: %v leads to %v", threads, calls, got.Wrong, events)
				}
			}
		}
	}
}

// The wrong event is found at the end of a single schedule, also if another event of the same step may occur.
func TestScheduleOfWrong(t *testing.T) {
	put := []api.Op{op(api.Set, 1, 1), op(api.Store, 1, 0), op(api.Set, 1, 2), op(api.Store, 1, 0)}
	get := []api.Op{op(api.Load, 0, 0), op(api.Emit, 0)}
	m := api.Machine{Words: []int{0}, Codes: [][]api.Op{put, get}, Threads: [][]api.Call{{{Code: 0}}, {{Code: 1}, {Code: 1}}}}
	for _, c := range []struct {
		name  string
		wrong func(e api.Event) bool
		want  []int
	}{
		{"nothing", func(e api.Event) bool { return false }, nil},
		{"begin", func(e api.Event) bool { return e.Thread == 1 && e.Call == 1 && !e.End }, []int{1, 1, 1, 1}},
		{"between", func(e api.Event) bool { return e.Thread == 1 && e.Call == 1 && e.End && e.Told[0] == 1 }, []int{0, 0, 1, 1, 1, 1}},
		{"behind", func(e api.Event) bool { return e.Thread == 1 && e.End && e.Told[0] == 2 }, []int{0, 0, 0, 0, 1, 1}},
	} {
		s := Search[bool]{Machine: m, Most: most, Note: func(n bool, e api.Event) (bool, bool) { return n, !c.wrong(e) }}
		got := s.Run(false)
		if !slices.Equal(got.Wrong, c.want) || got.All != (c.want == nil) {
			t.Errorf("%s: Run = %v, want the schedule %v", c.name, got, c.want)
		}
	}
}

// The events are those of package run, and calls that need not overlap do not.
func TestEvents(t *testing.T) {
	fail := []api.Op{op(api.Set, 0, 7), op(api.Emit, 0), op(api.Load, 0, 0, 9), op(api.Emit, 0)}
	m := api.Machine{Words: []int{4}, Codes: [][]api.Op{nil, count(), fail}, Threads: [][]api.Call{
		{{Code: 1}, {Code: 0}}, {{Code: 2}, {Code: 1}},
	}}
	histories := map[string]bool{}
	Search[string]{Machine: m, Most: most, Note: func(l string, e api.Event) (string, bool) {
		l += fmt.Sprintln(e.Thread, e.Call, e.End, e.Code, e.Told)
		histories[l] = true
		return l, e.Step == 0
	}}.Run("")
	for _, schedule := range [][]int{{0, 0, 0, 0, 0, 0, 1, 1, 1, 1, 1, 1, 1, 1}, {1, 1, 1, 0, 0, 0, 0, 0, 0, 1, 1, 1, 1, 1}} {
		events, _, _ := run.Play(m, schedule)
		text := ""
		for _, e := range events {
			text += fmt.Sprintln(e.Thread, e.Call, e.End, e.Code, e.Told)
		}
		if !histories[text] {
			t.Errorf("no schedule has the events\n%s", text)
		}
	}
}

// mixed returns a short code that races for two words. It has no jumps back.
func mixed(r *rand.Rand) []api.Op {
	code := make([]api.Op, r.Intn(5))
	for i := range code {
		word := r.Intn(9) / 4 // seldom one that does not exist
		code[i] = [...]api.Op{
			op(api.Load, 0, 3, word), op(api.Load, 1, 3, word), op(api.Load, 1, 3, word), op(api.Store, 0, 3, word),
			op(api.Store, 0, 3, word), op(api.Store, 1, 3, word), op(api.Cas, 0, 3, word, 1), op(api.Cas, 1, 3, word, 2),
			op(api.Add, 0, 0, 1), op(api.Unless, r.Intn(2), i+1+r.Intn(len(code)-i)), op(api.Emit, 1),
		}[r.Intn(11)]
	}
	return append(code, op(api.Emit, 0), op(api.Emit, 1))
}

// steps: those of each thread.
type steps [2]int

// outcome: how the only call of each thread has ended.
type outcome [2]string

func (o outcome) after(e api.Event) outcome {
	if e.End {
		o[e.Thread] = fmt.Sprint(e.Code, e.Told)
	}
	return o
}

// race: a machine whose two threads have one short call each, and the number of steps that these take at most.
func race(r *rand.Rand) (api.Machine, steps) {
	m := api.Machine{Words: []int{0, r.Intn(2)}, Codes: [][]api.Op{mixed(r), mixed(r)}}
	var lengths steps
	for i, code := range m.Codes {
		m.Threads = append(m.Threads, []api.Call{{Code: i, Args: []int{r.Intn(3), r.Intn(2)}}})
		lengths[i] = len(code)
	}
	return m, lengths
}

// play visits all schedules that go on with so many steps of each thread.
func play(m api.Machine, left steps, schedule []int, visit func(schedule []int, events []api.Event)) {
	if left == (steps{}) {
		events, _, _ := run.Play(m, schedule)
		visit(schedule, events)
	}
	for i, n := range left {
		if n > 0 {
			next := left
			next[i]--
			play(m, next, append(schedule, i), visit)
		}
	}
}

// All that can happen is found, and nothing else: package run plays all schedules of small machines.
func TestAllSchedules(t *testing.T) {
	several := 0
	for seed := range 2000 {
		m, left := race(rand.New(rand.NewSource(int64(seed))))
		got, want := map[outcome]bool{}, map[outcome]bool{}
		play(m, left, nil, func(_ []int, events []api.Event) {
			var o outcome
			for _, e := range events {
				o = o.after(e)
			}
			want[o] = true
		})
		Search[outcome]{Machine: m, Most: most, Note: func(o outcome, e api.Event) (outcome, bool) {
			o = o.after(e)
			if o[0] != "" && o[1] != "" {
				got[o] = true
			}
			return o, true
		}}.Run(outcome{})
		if !maps.Equal(got, want) {
			t.Fatalf("seed %d: %v: the outcomes are %v, want %v", seed, m, got, want)
		}
		if len(want) > 1 {
			several++
		}
	}
	if several < 200 {
		t.Errorf("only %d machines have several outcomes", several)
	}
}

// wantLeast: the limit, which is one of the search, has to be at least this number.
func wantLeast(t *testing.T, name string, s *Search[int], limit *int, least int) {
	t.Helper()
	s.Most, s.Note = most, anything
	for *limit = max(1, least-2); *limit <= least+2; *limit++ {
		got := s.Run(0)
		if enough := *limit >= least; (got.Wrong == nil) != enough || got.All != enough {
			t.Errorf("%s: Run with the limit %d = %v, where %d steps are needed", name, *limit, got, least)
		}
	}
}

// wantAlone: this is the least number of steps that suffices alone.
func wantAlone(t *testing.T, name string, s Search[int], least int) {
	t.Helper()
	wantLeast(t, name, &s, &s.Alone, least)
}

// wantSteps: this is the least number of steps that suffices, whatever the others do.
func wantSteps(t *testing.T, name string, s Search[int], least int) {
	t.Helper()
	wantLeast(t, name, &s, &s.Steps, least)
}

// add: a code that adds its argument to the word 0, and tries again until nobody has interfered.
func add() []api.Op {
	return []api.Op{op(api.Load, 1, 2), op(api.Copy, 3, 1), op(api.Add, 3, 3, 0), op(api.Cas, 3, 2, 0, 1), op(api.Unless, 3, 0), op(api.Emit, 1)}
}

// adding: two threads add 1 and -1.
func adding() api.Machine {
	m := machine([]int{0}, add(), 2, 2)
	for _, calls := range m.Threads {
		for i := range calls {
			calls[i].Args = []int{1 - 2*i}
		}
	}
	return m
}

// Without loops, a call takes the same number of steps alone and under any schedule.
func TestLimitsWithoutLoops(t *testing.T) {
	local, shared := op(api.Set, 1, 5), op(api.Load, 0, 2)
	fail := []api.Op{shared, local, op(api.Load, 0, 2, 9), local, local}
	for _, c := range []struct {
		name    string
		machine api.Machine
		least   int
	}{
		{"no calls", machine([]int{1}, []api.Op{shared}, 0, 0), 1},
		{"a call without instructions", machine(nil, nil, 1), 1},
		{"instructions without access", machine(nil, []api.Op{local, local, local}, 2), 3},
		{"one access", machine([]int{1}, []api.Op{local, shared, local, local}, 1), 4},
		{"several accesses", machine([]int{1}, []api.Op{shared, shared, local, shared, local}, 1, 0, 1), 5},
		{"an access that fails", machine([]int{1}, fail, 1, 1), 3},
	} {
		for _, again := range []bool{false, true} {
			name := fmt.Sprintf("%s, again: %t", c.name, again)
			wantAlone(t, name, Search[int]{Machine: c.machine, Again: again}, c.least)
			wantSteps(t, name, Search[int]{Machine: c.machine, Again: again}, c.least)
		}
	}
}

// A call that tries again takes 6 steps, and alone 4 more if others have interfered after the first one, and in all 5
// more for each of the calls of the other thread.
func TestLimitsOfLoops(t *testing.T) {
	wantAlone(t, "alone", Search[int]{Machine: adding()}, 10)
	wantAlone(t, "alone, again", Search[int]{Machine: adding(), Again: true}, 10)
	wantSteps(t, "in all", Search[int]{Machine: adding()}, 16)
	both := Search[int]{Machine: adding(), Again: true, Alone: 10, Steps: 100, Most: most, Note: anything}
	if got := both.Run(0); len(got.Wrong) < 100 || got.All {
		t.Errorf("Run = %v, want a call that never ends", got)
	}
	both.Again, both.Steps = false, 16
	if got := both.Run(0); !got.All {
		t.Errorf("Run = %v, want no call that takes longer", got)
	}
}

// The schedule ends with the steps of the thread whose call has not ended.
func TestScheduleOfLimits(t *testing.T) {
	wait := []api.Op{op(api.Load, 0, 2), op(api.When, 0, 0)}
	lock := []api.Op{op(api.Set, 0, 1), op(api.Store, 0, 2), op(api.Set, 0, 0), op(api.Store, 0, 2)}
	m := api.Machine{Words: []int{0}, Codes: [][]api.Op{lock, wait}, Threads: [][]api.Call{{{Code: 0}}, {{Code: 1}}}}
	row := slices.Repeat([]int{1}, 10)
	for _, s := range []Search[int]{{Alone: 10}, {Steps: 10}} {
		s.Machine, s.Most, s.Note = m, most, anything
		s.Machine.Codes = [][]api.Op{lock, wait}
		if got, want := s.Run(0), append([]int{0, 0}, row...); !slices.Equal(got.Wrong, want) || got.All {
			t.Errorf("Run = %v, want the schedule %v", got, want)
		}
		s.Machine.Codes = [][]api.Op{lock, {op(api.Jump, 0)}}
		if got := s.Run(0); !slices.Equal(got.Wrong, row) || got.All {
			t.Errorf("without access: Run = %v, want the schedule %v", got, row)
		}
	}
}

// alone returns the most steps that a thread may need alone, wherever a schedule leads that goes on with any steps of
// the threads.
func alone(m api.Machine, schedule []int) int {
	needed := 0
	for i := range m.Threads {
		behind := append(slices.Clone(schedule), slices.Repeat([]int{i}, 20)...)
		events, _, _ := run.Play(m, behind)
		for _, e := range events {
			if e.Thread == i && e.End && e.Step >= len(schedule) {
				needed = max(needed, e.Step-len(schedule)+1, alone(m, append(slices.Clone(schedule), i)))
			}
		}
	}
	return needed
}

// Package run lets threads run alone after all schedules of small machines.
func TestAloneAfterAllSchedules(t *testing.T) {
	for seed := range 300 {
		m, _ := race(rand.New(rand.NewSource(int64(seed))))
		wantAlone(t, fmt.Sprint("seed ", seed), Search[int]{Machine: m}, alone(m, nil))
	}
}

// Package run counts the steps of the calls under all schedules of small machines.
func TestStepsUnderAllSchedules(t *testing.T) {
	shorter := 0
	for seed := range 1000 {
		m, left := race(rand.New(rand.NewSource(int64(seed))))
		needed := 0
		play(m, left, nil, func(schedule []int, events []api.Event) {
			var executed steps
			for step, i := range schedule {
				executed[i]++
				for _, e := range events {
					if e.End && e.Step == step {
						needed = max(needed, executed[i])
					}
				}
			}
		})
		if needed < max(left[0], left[1]) {
			shorter++
		}
		wantSteps(t, fmt.Sprint("seed ", seed), Search[int]{Machine: m}, needed)
	}
	if shorter < 100 {
		t.Errorf("only %d machines have no call that executes all its instructions", shorter)
	}
}

// With Again, a thread has always a call to begin, and goes back to a state that has been visited.
func TestAgain(t *testing.T) {
	flip := []api.Op{op(api.Load, 0, 2), op(api.Set, 1, 1), op(api.Sub, 0, 1, 0), op(api.Store, 0, 2), op(api.Emit, 0)}
	m := machine([]int{0}, flip, 3)
	wantStates(t, "once", Search[int]{Machine: m, Most: most}, 7, true)
	wantStates(t, "again", Search[int]{Machine: m, Most: most, Again: true}, 12, true)
	m.Threads = append(m.Threads, nil)
	wantStates(t, "a thread without calls", Search[int]{Machine: m, Most: most, Again: true}, 12, true)
	calls := map[int]bool{}
	Search[int]{Machine: m, Most: most, Again: true, Note: func(n int, e api.Event) (int, bool) {
		calls[e.Call] = true
		return n, true
	}}.Run(0)
	if len(calls) != 3 {
		t.Errorf("the numbers of the calls are %v", calls)
	}
}

// The machine stays as it is.
func TestMemory(t *testing.T) {
	m := machine([]int{5, 6}[:1], count(), 2, 2)
	before := fmt.Sprint(m, m.Words[:2])
	wantStates(t, "counting", Search[int]{Machine: m, Most: most}, 57, true)
	if after := fmt.Sprint(m, m.Words[:2]); after != before {
		t.Errorf("the machine became %s, want %s", after, before)
	}
}
