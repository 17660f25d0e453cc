package run

import (
	"fmt"
	"math"
	"slices"
	"testing"

	"barograph/api"
	"barograph/vm"
)

// edges are numbers near which a comparison, a wraparound or a sign may go wrong.
var edges = []int{math.MinInt, math.MinInt + 1, -1 << 32, -200, -2, -1, 0, 1, 2, 200, 1 << 32, math.MaxInt - 1, math.MaxInt}

// op takes the fields from A on; those that are left out are 0.
func op(kind int, fields ...int) api.Op {
	fields = append(slices.Clone(fields), 0, 0, 0, 0)
	return api.Op{Kind: kind, A: fields[0], B: fields[1], C: fields[2], D: fields[3]}
}

func code(ops ...api.Op) []api.Op         { return ops }
func codes(list ...[]api.Op) [][]api.Op   { return list }
func call(code int, args ...int) api.Call { return api.Call{Code: code, Args: args} }
func calls(list ...api.Call) []api.Call   { return list }

func machine(words []int, codes [][]api.Op, threads ...[]api.Call) api.Machine {
	return api.Machine{Words: words, Codes: codes, Threads: threads}
}

// turns takes a thread and how often it performs a step, several times.
func turns(pairs ...int) []int {
	var schedule []int
	for i := 0; i < len(pairs); i += 2 {
		schedule = append(schedule, slices.Repeat([]int{pairs[i]}, pairs[i+1])...)
	}
	return schedule
}

func upTo(n int) []int {
	var l []int
	for i := range n {
		l = append(l, i+1)
	}
	return l
}

func brief(v any) string {
	return fmt.Sprintf("%.600s", fmt.Sprint(v))
}

func began(step, thread, call int) api.Event {
	return api.Event{Step: step, Thread: thread, Call: call}
}

func ended(step, thread, call int, told ...int) api.Event {
	return api.Event{Step: step, Thread: thread, Call: call, End: true, Told: told}
}

func failed(step, thread, call int, e api.Errno, told ...int) api.Event {
	return api.Event{Step: step, Thread: thread, Call: call, End: true, Code: e, Told: told}
}

// result: what a call of Play came to.
type result struct {
	events []api.Event
	words  []int
	e      api.Errno
}

func play(m api.Machine, schedule []int) result {
	events, words, e := Play(m, schedule)
	return result{events, words, e}
}

func equalEvents(a, b api.Event) bool {
	return a.Step == b.Step && a.Thread == b.Thread && a.Call == b.Call && a.End == b.End && a.Code == b.Code && slices.Equal(a.Told, b.Told)
}

func (r result) equal(other result) bool {
	return slices.EqualFunc(r.events, other.events, equalEvents) && slices.Equal(r.words, other.words) && r.e == other.e
}

func wantMay(t *testing.T, name string, m api.Machine, want bool) {
	t.Helper()
	if got := May(m); got != want {
		t.Errorf("%s: May = %t, want %t: %s", name, got, want, brief(m))
	}
}

// wantPlay takes the words at the end and the events of an execution without an error.
func wantPlay(t *testing.T, name string, m api.Machine, schedule, words []int, events ...api.Event) {
	t.Helper()
	want := result{events, words, api.OK}
	if got := play(m, schedule); !got.equal(want) {
		t.Errorf("%s: Play = %s, want %s", name, brief(got), brief(want))
	}
}

func wantError(t *testing.T, name string, m api.Machine, schedule []int, want api.Errno) {
	t.Helper()
	if got := play(m, schedule); !got.equal(result{e: want}) {
		t.Errorf("%s: Play = %s, want the error %d alone", name, brief(got), want)
	}
}

// wantForm takes a machine that is valid or not, which both functions have to find.
func wantForm(t *testing.T, name string, m api.Machine, valid bool) {
	t.Helper()
	wantMay(t, name, m, valid)
	if valid {
		wantPlay(t, name, m, nil, m.Words)
	} else {
		wantError(t, name, m, nil, api.ErrForm)
	}
}

// P8.1: the document's example.
func TestMayZeroValue(t *testing.T) {
	wantForm(t, "the zero value", api.Machine{}, true)
	wantForm(t, "empty lists", api.Machine{Words: []int{}, Codes: [][]api.Op{}, Threads: [][]api.Call{}}, true)
	wantForm(t, "empty lists in lists", machine(nil, codes(nil, code()), nil, calls()), true)
}

func TestMayOrdinaryMachines(t *testing.T) {
	two := codes(code(op(api.Done)), code(op(api.Load, 0, 1), op(api.Emit, 0)))
	wantForm(t, "words alone", machine([]int{1, 2, 3}, nil), true)
	wantForm(t, "codes alone", machine(nil, two), true)
	wantForm(t, "one thread", machine([]int{4}, two, calls(call(1, 0), call(0))), true)
	wantForm(t, "three threads", machine([]int{4}, two, calls(call(1, 0)), nil, calls(call(0), call(1), call(1, 5, 6))), true)
	wantForm(t, "a code that fails", machine(nil, codes(code(op(api.Load, 0, 0, -1))), calls(call(0))), true)
	wantForm(t, "any numbers", machine(edges, codes(nil), calls(call(0, edges[:8]...), call(0, edges[5:]...))), true)
}

func TestMayWords(t *testing.T) {
	for _, count := range []int{0, 1, api.MaxWords - 1, api.MaxWords, api.MaxWords + 1, api.MaxWords + 2, 1000, 100000} {
		wantForm(t, fmt.Sprint(count, " words"), machine(upTo(count), nil), count <= api.MaxWords)
	}
}

func TestMayCodes(t *testing.T) {
	for _, c := range [][]api.Op{nil, code(op(api.Done)), slices.Repeat(code(op(api.Emit, 3)), api.MaxCode)} {
		for _, count := range []int{0, 1, api.MaxCodes - 1, api.MaxCodes, api.MaxCodes + 1, api.MaxCodes + 2, 100, 10000} {
			wantForm(t, fmt.Sprint(count, " codes"), machine(nil, slices.Repeat(codes(c), count)), count <= api.MaxCodes)
		}
	}
}

func TestMayThreads(t *testing.T) {
	for _, c := range [][]api.Call{nil, calls(call(0)), slices.Repeat(calls(call(0, 1, 2)), api.MaxCalls)} {
		for _, count := range []int{0, 1, api.MaxThreads - 1, api.MaxThreads, api.MaxThreads + 1, api.MaxThreads + 2, 100, 10000} {
			m := machine(nil, codes(nil), slices.Repeat([][]api.Call{c}, count)...)
			wantForm(t, fmt.Sprint(count, " threads"), m, count <= api.MaxThreads)
		}
	}
}

// withThread: a machine with two codes and this thread at each place among four.
func withThread(c []api.Call) []api.Machine {
	var list []api.Machine
	for at := range api.MaxThreads {
		threads := slices.Repeat([][]api.Call{calls(call(0), call(1, 2))}, api.MaxThreads)
		threads[at] = c
		list = append(list, machine([]int{1}, codes(code(op(api.Done)), nil), threads...))
	}
	return list
}

func TestMayCalls(t *testing.T) {
	for _, count := range []int{0, 1, api.MaxCalls - 1, api.MaxCalls, api.MaxCalls + 1, api.MaxCalls + 2, 100, 10000} {
		for _, m := range withThread(slices.Repeat(calls(call(1, 3)), count)) {
			wantForm(t, fmt.Sprint(count, " calls"), m, count <= api.MaxCalls)
		}
	}
	// The limit is one of each thread, not of all of them.
	m := machine(nil, codes(nil), slices.Repeat([][]api.Call{slices.Repeat(calls(call(0)), api.MaxCalls)}, api.MaxThreads)...)
	wantForm(t, "the most calls of all threads", m, true)
}

// atEach puts the call at each place among several ones that are valid.
func atEach(c api.Call) [][]api.Call {
	var list [][]api.Call
	for _, count := range []int{1, 2, 5, api.MaxCalls} {
		for at := range count {
			l := slices.Repeat(calls(call(0), call(1, 2, 3)), api.MaxCalls)[:count]
			l[at] = c
			list = append(list, l)
		}
	}
	return list
}

func TestMayArguments(t *testing.T) {
	for _, count := range []int{0, 1, api.MaxArgs - 1, api.MaxArgs, api.MaxArgs + 1, api.MaxArgs + 2, api.MaxRegs, api.MaxRegs + 1, 1000} {
		for number := range 2 {
			for _, l := range atEach(call(number, upTo(count)...)) {
				for _, m := range withThread(l) {
					wantForm(t, fmt.Sprint(count, " arguments"), m, count <= api.MaxArgs)
				}
			}
		}
	}
}

func TestMayNumbersOfCodes(t *testing.T) {
	numbers := append(slices.Clone(edges), 3, 7, 8, 9)
	for _, number := range numbers {
		for _, l := range atEach(call(number)) {
			for _, m := range withThread(l) {
				wantForm(t, fmt.Sprint("a call of ", number, " of 2"), m, number == 0 || number == 1)
			}
		}
		for count := range api.MaxCodes + 1 {
			m := machine(nil, slices.Repeat(codes(nil), count), calls(call(number)))
			wantForm(t, fmt.Sprintf("a call of %d of %d", number, count), m, number >= 0 && number < count)
			m.Codes = slices.Repeat(codes(nil), api.MaxCodes)[:count]
			wantMay(t, fmt.Sprintf("a call of %d of %d with spare capacity", number, count), m, number >= 0 && number < count)
		}
	}
}

// wrongCodes are not valid, each for another reason.
func wrongCodes() map[string][]api.Op {
	return map[string][]api.Op{
		"too long":         slices.Repeat(code(op(api.Done)), api.MaxCode+1),
		"kind 0":           code(op(0)),
		"kind -1":          code(op(-1)),
		"kind above":       code(op(api.Done + 1)),
		"register below":   code(op(api.Emit, -1)),
		"register above":   code(op(api.Done), op(api.Emit, api.MaxRegs)),
		"target below":     code(op(api.Jump, -1)),
		"target above":     code(op(api.When, 0, 2)),
		"not an operand":   code(op(api.Done, 0, 0, 0, 1)),
		"wrong at the end": append(slices.Repeat(code(op(api.Set, 1, 2)), api.MaxCode-1), op(api.Set, 24, 2)),
	}
}

// A code that is not valid is found at each place, whether it is called or not.
func TestMayWrongCodes(t *testing.T) {
	for name, c := range wrongCodes() {
		for _, count := range []int{1, 2, api.MaxCodes} {
			for at := range count {
				list := slices.Repeat(codes(code(op(api.Done))), count)
				list[at] = c
				wantForm(t, name, machine(nil, list), false)
				wantForm(t, name, machine(nil, list, calls(call(count-1))), false)
				wantForm(t, name, machine(nil, list, nil, calls(call(0), call(at))), false)
			}
		}
	}
}

// largest: as much of everything as is allowed.
func largest() api.Machine {
	long := append(slices.Repeat(code(op(api.Set, 23, 1)), api.MaxCode-1), op(api.Emit, 7))
	c := slices.Repeat(calls(call(api.MaxCodes-1, 1, 2, 3, 4, 5, 6, 7, 8)), api.MaxCalls)
	return machine(upTo(api.MaxWords), slices.Repeat(codes(long), api.MaxCodes), c, c, c, c)
}

func TestMayOneTooMuch(t *testing.T) {
	wantForm(t, "largest", largest(), true)
	for name, change := range map[string]func(m *api.Machine){
		"words":     func(m *api.Machine) { m.Words = append(m.Words, 0) },
		"codes":     func(m *api.Machine) { m.Codes = append(m.Codes, nil) },
		"a code":    func(m *api.Machine) { m.Codes[7] = append(m.Codes[7], op(api.Done)) },
		"threads":   func(m *api.Machine) { m.Threads = append(m.Threads, nil) },
		"calls":     func(m *api.Machine) { m.Threads[3] = append(slices.Clone(m.Threads[3]), call(0)) },
		"arguments": func(m *api.Machine) { m.Threads[3][19].Args = upTo(api.MaxArgs + 1) },
		"the code":  func(m *api.Machine) { m.Threads[3][19].Code = api.MaxCodes },
	} {
		m := largest()
		change(&m)
		wantForm(t, "one too much: "+name, m, false)
	}
}

// P8.2: the document's example.
func TestPlayExample(t *testing.T) {
	m := machine(nil, codes(code(op(api.Done))), calls(call(0)))
	wantPlay(t, "the document's example", m, []int{0}, nil, began(0, 0, 0), ended(0, 0, 0))
}

func TestPlayNothing(t *testing.T) {
	wantPlay(t, "the zero value", api.Machine{}, nil, nil)
	wantPlay(t, "an empty schedule", api.Machine{}, []int{}, nil)
	wantPlay(t, "words stay", machine([]int{3, 4}, nil), nil, []int{3, 4})
	m := machine([]int{3, 4}, codes(code(op(api.Store, 0, 1))), calls(call(0, 5)), calls(call(0, 6)))
	wantPlay(t, "nobody performs a step", m, nil, []int{3, 4})
}

// bump adds its argument to word 0 in three steps and emits the sum in the fourth.
func bump() []api.Op {
	return code(op(api.Load, 1, 5), op(api.Add, 1, 1, 0), op(api.Store, 1, 5), op(api.Emit, 1))
}

func TestPlayOneThread(t *testing.T) {
	m := machine([]int{10, 20}, codes(bump()), calls(call(0, 3)))
	begin, end := began(0, 0, 0), ended(3, 0, 0, 13)
	wantPlay(t, "one step", m, turns(0, 1), []int{10, 20}, begin)
	wantPlay(t, "two steps", m, turns(0, 2), []int{10, 20}, begin)
	wantPlay(t, "three steps", m, turns(0, 3), []int{13, 20}, begin)
	wantPlay(t, "four steps", m, turns(0, 4), []int{13, 20}, begin, end)
	wantPlay(t, "no further calls", m, turns(0, 9), []int{13, 20}, begin, end)
}

func TestPlaySeveralCalls(t *testing.T) {
	m := machine([]int{10}, codes(bump(), code(op(api.Emit, 0)), nil), calls(call(1, 7), call(0, 1), call(2), call(0, 2), call(1)))
	all := []api.Event{
		began(0, 0, 0), ended(0, 0, 0, 7),
		began(1, 0, 1), ended(4, 0, 1, 11),
		began(5, 0, 2), ended(5, 0, 2),
		began(6, 0, 3), ended(9, 0, 3, 13),
		began(10, 0, 4), ended(10, 0, 4, 0),
	}
	for steps := range 20 {
		var events []api.Event
		for _, e := range all {
			if e.Step < steps {
				events = append(events, e)
			}
		}
		word := 10
		if steps > 3 {
			word = 11
		}
		if steps > 8 {
			word = 13
		}
		wantPlay(t, fmt.Sprint(steps, " steps"), m, turns(0, steps), []int{word}, events...)
	}
}

func TestPlaySeveralThreads(t *testing.T) {
	m := machine([]int{10}, codes(bump()), calls(call(0, 1)), calls(call(0, 2), call(0, 3)), calls(call(0, 4)))
	wantPlay(t, "one behind the other", m, turns(2, 4, 0, 4, 1, 8), []int{20},
		began(0, 2, 0), ended(3, 2, 0, 14), began(4, 0, 0), ended(7, 0, 0, 15),
		began(8, 1, 0), ended(11, 1, 0, 17), began(12, 1, 1), ended(15, 1, 1, 20))
	wantPlay(t, "in turn", m, []int{0, 1, 2, 0, 1, 2, 0, 1, 2, 0, 1, 2}, []int{14},
		began(0, 0, 0), began(1, 1, 0), began(2, 2, 0), ended(9, 0, 0, 11), ended(10, 1, 0, 12), ended(11, 2, 0, 14))
	wantPlay(t, "suspended for a while", m, turns(0, 2, 1, 8, 0, 2), []int{11},
		began(0, 0, 0), began(2, 1, 0), ended(5, 1, 0, 12), began(6, 1, 1), ended(9, 1, 1, 15), ended(11, 0, 0, 11))
	wantPlay(t, "one is never scheduled", m, turns(1, 8, 2, 4), []int{19},
		began(0, 1, 0), ended(3, 1, 0, 12), began(4, 1, 1), ended(7, 1, 1, 15), began(8, 2, 0), ended(11, 2, 0, 19))
	wantPlay(t, "one does not end", m, turns(0, 3, 1, 4, 2, 1), []int{13},
		began(0, 0, 0), began(3, 1, 0), ended(6, 1, 0, 13), began(7, 2, 0))
}

// Every schedule of two threads with four steps each: a sum is lost if both load before the first one stores.
func TestPlayEverySchedule(t *testing.T) {
	m := machine([]int{10}, codes(bump()), calls(call(0, 1)), calls(call(0, 2)))
	count := 0
	for bits := range 1 << 8 {
		var schedule []int
		var at [2][]int // the steps of each thread
		for step := range 8 {
			thread := bits >> step & 1
			schedule = append(schedule, thread)
			at[thread] = append(at[thread], step)
		}
		if len(at[0]) != 4 {
			continue
		}
		count++
		first, second := 11, 12
		if at[0][2] < at[1][0] {
			second = 13
		} else if at[1][2] < at[0][0] {
			first = 13
		}
		words := []int{first}
		if at[1][2] > at[0][2] {
			words = []int{second}
		}
		events := []api.Event{began(at[0][0], 0, 0), ended(at[0][3], 0, 0, first), began(at[1][0], 1, 0), ended(at[1][3], 1, 0, second)}
		slices.SortStableFunc(events, func(a, b api.Event) int { return a.Step - b.Step })
		wantPlay(t, fmt.Sprint(schedule), m, schedule, words, events...)
	}
	if count != 70 {
		t.Errorf("%d schedules", count)
	}
}

// A compare-and-swap is one step, so only one of four threads takes the word, whoever comes first.
func TestPlayCompareAndSwap(t *testing.T) {
	take := code(op(api.Copy, 1, 0), op(api.Cas, 1, 5, 0, 6), op(api.Emit, 1))
	m := machine([]int{0, 8}, codes(take), calls(call(0, 11)), calls(call(0, 12)), calls(call(0, 13)), calls(call(0, 14)))
	for first := range 4 {
		order := []int{first, (first + 1) % 4, (first + 2) % 4, (first + 3) % 4}
		schedule := append([]int{0, 1, 2, 3}, append(order, 0, 1, 2, 3)...)
		events := []api.Event{began(0, 0, 0), began(1, 1, 0), began(2, 2, 0), began(3, 3, 0)}
		for thread := range 4 {
			won := 0
			if thread == first {
				won = 1
			}
			events = append(events, ended(8+thread, thread, 0, won))
		}
		wantPlay(t, fmt.Sprint("first ", first), m, schedule, []int{11 + first, 8}, events...)
	}
}

// Each kind of instruction takes one step: what a thread does with R[0] = 6, R[1] = 4, R[2] = 1 and R[3] = 6, and what the other sees.
func TestPlayKinds(t *testing.T) {
	emit, store := op(api.Emit, 5), op(api.Set, 9, 0)
	for _, c := range []struct {
		name  string
		op    api.Op
		told  []int
		words []int
	}{
		{"Set", op(api.Set, 5, -9), []int{-9}, []int{20, 6}},
		{"Copy", op(api.Copy, 5, 1), []int{4}, []int{20, 6}},
		{"Add", op(api.Add, 5, 0, 1), []int{10}, []int{20, 6}},
		{"Sub", op(api.Sub, 5, 0, 1), []int{2}, []int{20, 6}},
		{"Mul", op(api.Mul, 5, 0, 1), []int{24}, []int{20, 6}},
		{"Div", op(api.Div, 5, 0, 1), []int{1}, []int{20, 6}},
		{"Div by 0", op(api.Div, 5, 0, 9), []int{0}, []int{20, 6}},
		{"Rem", op(api.Rem, 5, 0, 1), []int{2}, []int{20, 6}},
		{"Rem by 0", op(api.Rem, 5, 0, 9), []int{0}, []int{20, 6}},
		{"Same", op(api.Same, 5, 0, 3), []int{1}, []int{20, 6}},
		{"not Same", op(api.Same, 5, 0, 1), []int{0}, []int{20, 6}},
		{"Less", op(api.Less, 5, 1, 0), []int{1}, []int{20, 6}},
		{"not Less", op(api.Less, 5, 0, 3), []int{0}, []int{20, 6}},
		{"Jump", op(api.Jump, 1), []int{0}, []int{20, 6}},
		{"When", op(api.When, 9, 0), []int{0}, []int{20, 6}},
		{"Unless", op(api.Unless, 0, 0), []int{0}, []int{20, 6}},
		{"Load", op(api.Load, 5, 2, -1), []int{20}, []int{20, 6}},
		{"Store", op(api.Store, 1, 2), []int{0}, []int{20, 4}},
		{"Cas", op(api.Cas, 1, 2, 0, 3), []int{0}, []int{20, 4}},
		{"Cas that fails", op(api.Cas, 1, 2, 0, 1), []int{0}, []int{20, 6}},
		{"Emit", op(api.Emit, 3), []int{6, 0}, []int{20, 6}},
	} {
		look := code(op(api.Load, 0, 9), op(api.Load, 1, 9, 1), op(api.Emit, 0), op(api.Emit, 1))
		m := machine([]int{20, 6}, codes(code(c.op, emit, store), look), calls(call(0, 6, 4, 1, 6)), calls(call(1)))
		wantPlay(t, c.name, m, turns(0, 1, 1, 4, 0, 2), c.words,
			began(0, 0, 0), began(1, 1, 0), ended(4, 1, 0, c.words...), ended(6, 0, 0, c.told...))
	}
	m := machine([]int{20}, codes(code(op(api.Done), emit)), calls(call(0)))
	wantPlay(t, "Done", m, turns(0, 2), []int{20}, began(0, 0, 0), ended(0, 0, 0))
}

// A call ends in the step of its last instruction, and the next one begins in the thread's next step.
func TestPlayEnds(t *testing.T) {
	for _, c := range []struct {
		name  string
		code  []api.Op
		steps int
		told  []int
	}{
		{"no instruction", nil, 1, nil},
		{"an empty list", code(), 1, nil},
		{"Done", code(op(api.Done)), 1, nil},
		{"behind the last", code(op(api.Emit, 0)), 1, []int{5}},
		{"Jump", code(op(api.Jump, 2), op(api.Emit, 0)), 1, nil},
		{"Jump at the end", code(op(api.Emit, 0), op(api.Jump, 2)), 2, []int{5}},
		{"Done before others", code(op(api.Emit, 0), op(api.Done), op(api.Emit, 0)), 2, []int{5}},
		{"When", code(op(api.When, 0, 3), op(api.Emit, 0), op(api.Emit, 0)), 1, nil},
		{"When at the end", code(op(api.Emit, 1), op(api.When, 1, 0)), 2, []int{0}},
		{"Unless", code(op(api.Unless, 1, 3), op(api.Emit, 0), op(api.Emit, 0)), 1, nil},
		{"Unless at the end", code(op(api.Emit, 1), op(api.Unless, 0, 0)), 2, []int{0}},
		{"Store", code(op(api.Emit, 0), op(api.Set, 2, 1), op(api.Store, 1, 2)), 3, []int{5}},
	} {
		m := machine([]int{5, 0}, codes(c.code), calls(call(0, 5), call(0, 5)), calls(call(0, 5)))
		last := c.steps - 1
		first := []api.Event{began(0, 0, 0), ended(last, 0, 0, c.told...)}
		wantPlay(t, c.name, m, turns(0, c.steps), []int{5, 0}, first...)
		wantPlay(t, c.name+", one step less", m, turns(0, last), []int{5, 0}, first[:min(last, 1)]...)
		wantPlay(t, c.name+", twice", m, turns(0, 2*c.steps), []int{5, 0}, append(slices.Clone(first),
			began(c.steps, 0, 1), ended(c.steps+last, 0, 1, c.told...))...)
		wantPlay(t, c.name+", another thread", m, turns(0, c.steps, 1, c.steps), []int{5, 0}, append(slices.Clone(first),
			began(c.steps, 1, 0), ended(c.steps+last, 1, 0, c.told...))...)
	}
}

// A jump to the first instruction does not begin the call anew.
func TestPlayCallThatDoesNotEnd(t *testing.T) {
	m := machine([]int{5}, codes(code(op(api.Jump, 0)), code(op(api.Emit, 0))), calls(call(0), call(1)), calls(call(1, 4)))
	for _, steps := range []int{1, 2, 3, 100, api.MaxSteps} {
		wantPlay(t, fmt.Sprint(steps, " steps"), m, turns(0, steps), []int{5}, began(0, 0, 0))
	}
	wantPlay(t, "the other ends", m, turns(0, 50, 1, 1, 0, 50), []int{5}, began(0, 0, 0), began(50, 1, 0), ended(50, 1, 0, 4))
}

// A thread without further calls does nothing, but its steps count.
func TestPlayThreadsWithoutCalls(t *testing.T) {
	m := machine([]int{5}, codes(code(op(api.Emit, 0), op(api.Done))), nil, calls(call(0, 4)), calls())
	wantPlay(t, "none", m, turns(0, 10, 2, 10), []int{5})
	wantPlay(t, "between", m, []int{0, 2, 1, 2, 0, 0, 1, 1, 1, 0, 2}, []int{5}, began(2, 1, 0), ended(6, 1, 0, 4))
	wantPlay(t, "no codes either", machine([]int{5}, nil, nil, nil), turns(0, 3, 1, 3), []int{5})
}

// tellAll emits every register, then sets them all.
func tellAll() []api.Op {
	var c []api.Op
	for r := range api.MaxRegs {
		c = append(c, op(api.Emit, r))
	}
	for r := range api.MaxRegs {
		c = append(c, op(api.Set, r, 90+r))
	}
	return c
}

// Every call has its own registers and emitted numbers; the words remain.
func TestPlayCallsStartAnew(t *testing.T) {
	c := append(code(op(api.Load, 8, 9), op(api.Emit, 8), op(api.Store, 0, 9), op(api.Set, 8, 0)), tellAll()...)
	m := machine([]int{77}, codes(c), calls(call(0, 1, 2, 3, 4, 5, 6, 7, 8), call(0), call(0, 6)), calls(call(0, 9, 8)))
	told := func(word int, args ...int) []int {
		return append([]int{word}, append(args, make([]int, api.MaxRegs-len(args))...)...)
	}
	n := len(c)
	events := []api.Event{
		began(0, 0, 0), ended(n-1, 0, 0, told(77, 1, 2, 3, 4, 5, 6, 7, 8)...),
		began(n, 0, 1), ended(2*n-1, 0, 1, told(1)...),
		began(2*n, 0, 2), ended(3*n-1, 0, 2, told(0, 6)...),
		began(3*n, 1, 0), ended(4*n-1, 1, 0, told(6, 9, 8)...),
	}
	wantPlay(t, "one behind the other", m, turns(0, 3*n, 1, n), []int{9}, events...)
}

// Two threads within calls at the same time have their own registers and emitted numbers, too.
func TestPlayThreadsAreSeparate(t *testing.T) {
	m := machine([]int{77}, codes(tellAll()), calls(call(0, 1, 2)), calls(call(0, 3)), calls(call(0)))
	var schedule []int
	for range len(m.Codes[0]) {
		schedule = append(schedule, 2, 0, 1)
	}
	n := len(schedule)
	told := func(args ...int) []int { return append(args, make([]int, api.MaxRegs-len(args))...) }
	wantPlay(t, "in turn", m, schedule, []int{77}, began(0, 2, 0), began(1, 0, 0), began(2, 1, 0),
		ended(n-3, 2, 0, told()...), ended(n-2, 0, 0, told(1, 2)...), ended(n-1, 1, 0, told(3)...))
}

// A failed access ends its call with the numbers emitted so far, and no word changes.
func TestPlayNoSuchWord(t *testing.T) {
	for _, count := range []int{0, 1, 3, api.MaxWords} {
		words := slices.Repeat([]int{5}, count)
		for _, kind := range []int{api.Load, api.Store, api.Cas} {
			for _, at := range []int{math.MinInt, -api.MaxWords, -2, -1, count, count + 1, api.MaxWords, api.MaxWords + 1, math.MaxInt} {
				for _, o := range []api.Op{op(kind, 2, 0), op(kind, 2, 1, at)} {
					name := fmt.Sprintf("kind %d, word %d of %d", kind, at, count)
					access := code(op(api.Emit, 3), op(api.Emit, 2), o, op(api.Emit, 3))
					m := machine(words, codes(access, code(o), code(op(api.Emit, 0))), calls(call(0, at, 0, 5, 6), call(1, at, 0, 5), call(2, 8)), calls(call(2, 9)))
					wantPlay(t, name, m, turns(0, 3), words, began(0, 0, 0), failed(2, 0, 0, api.ErrRange, 6, 5))
					wantPlay(t, name+", and others", m, []int{0, 0, 0, 1, 0, 0, 0, 1}, words,
						began(0, 0, 0), failed(2, 0, 0, api.ErrRange, 6, 5), began(3, 1, 0), ended(3, 1, 0, 9),
						began(4, 0, 1), failed(4, 0, 1, api.ErrRange), began(5, 0, 2), ended(5, 0, 2, 8))
				}
			}
		}
	}
}

// What was stored before the failure remains, and the last word can be accessed.
func TestPlayWordsBeforeAFailure(t *testing.T) {
	fill := code(op(api.Set, 1, 1), op(api.Store, 0, 2), op(api.Add, 2, 2, 1), op(api.Jump, 1))
	m := machine(make([]int, api.MaxWords), codes(fill), calls(call(0, 4)))
	steps := 3*api.MaxWords + 2
	wantPlay(t, "until there is no word", m, turns(0, steps+5), slices.Repeat([]int{4}, api.MaxWords),
		began(0, 0, 0), failed(steps-1, 0, 0, api.ErrRange))
}

func TestPlayTooManyNumbers(t *testing.T) {
	counting := code(op(api.Set, 1, 1), op(api.Add, 0, 0, 1), op(api.Emit, 0), op(api.Jump, 1))
	exact := slices.Repeat(code(op(api.Emit, 0)), api.MaxCode)
	m := machine([]int{5}, codes(counting, exact), calls(call(0), call(1, 7), call(0, 1)), calls(call(1, 8)))
	full := 3*api.MaxCode + 2 // the step of the first number that is one too many
	sevens, eights := slices.Repeat([]int{7}, api.MaxCode), slices.Repeat([]int{8}, api.MaxCode)
	first := []api.Event{began(0, 0, 0), failed(full, 0, 0, api.ErrFull, upTo(api.MaxCode)...)}
	wantPlay(t, "one step less", m, turns(0, full), []int{5}, first[:1]...)
	wantPlay(t, "one too many", m, turns(0, full+1), []int{5}, first...)
	// The next call may emit as many numbers again, and so may another thread.
	next := append(slices.Clone(first), began(full+1, 0, 1), ended(full+api.MaxCode, 0, 1, sevens...))
	at := full + api.MaxCode + 1
	wantPlay(t, "the next call", m, turns(0, at), []int{5}, next...)
	next = append(next, began(at, 1, 0), ended(at+api.MaxCode-1, 1, 0, eights...))
	wantPlay(t, "another thread", m, turns(0, at, 1, 2*api.MaxCode), []int{5}, next...)
}

// Play with as much of everything as is allowed.
func TestPlayLargest(t *testing.T) {
	m := largest()
	var schedule []int
	var events []api.Event
	for step := range api.MaxSteps {
		thread := step % 4
		schedule = append(schedule, thread)
		n := step / 4 // the steps of this thread before
		if n%api.MaxCode == 0 {
			events = append(events, began(step, thread, n/api.MaxCode))
		}
		if n%api.MaxCode == api.MaxCode-1 {
			events = append(events, ended(step, thread, n/api.MaxCode, 8))
		}
	}
	wantPlay(t, "largest", m, schedule, upTo(api.MaxWords), events...)
	wantError(t, "one step more", m, append(schedule, 0), api.ErrSize)

	// All calls of all threads end.
	m.Codes[7] = nil
	events = nil
	for step := range api.MaxThreads * api.MaxCalls {
		events = append(events, began(step, step%4, step/4), ended(step, step%4, step/4))
	}
	wantPlay(t, "all calls", m, schedule, upTo(api.MaxWords), events...)
}

// Arguments and words of all sizes are taken as they are, and every word is the one with its number.
func TestPlayNumbers(t *testing.T) {
	for count := range api.MaxArgs + 1 {
		m := machine(edges, codes(tellAll()), calls(call(0, edges[:count]...)))
		told := append(slices.Clone(edges[:count]), make([]int, api.MaxRegs-count)...)
		wantPlay(t, fmt.Sprint(count, " arguments"), m, turns(0, 48), edges, began(0, 0, 0), ended(47, 0, 0, told...))
	}
	for at := range api.MaxWords {
		m := machine(upTo(api.MaxWords), codes(code(op(api.Load, 1, 0), op(api.Store, 2, 0), op(api.Emit, 1))), calls(call(0, at, 0, -3)))
		words := upTo(api.MaxWords)
		words[at] = -3
		wantPlay(t, fmt.Sprint("word ", at), m, turns(0, 3), words, began(0, 0, 0), ended(2, 0, 0, at+1))
	}
	m := machine([]int{1}, codes(code(op(api.Load, 1, 0, math.MinInt), op(api.Add, 1, 1, 0), op(api.Emit, 1))), calls(call(0, math.MinInt)))
	wantPlay(t, "addresses and sums wrap around", m, turns(0, 3), []int{1}, began(0, 0, 0), ended(2, 0, 0, math.MinInt+1))
}

// Each call is one of the code with its number.
func TestPlayNumbersOfCodes(t *testing.T) {
	var list [][]api.Op
	for i := range api.MaxCodes {
		list = append(list, code(op(api.Set, 0, 100+i), op(api.Emit, 0)))
	}
	m := machine(nil, list, calls(call(7), call(0), call(3)), nil, calls(call(1), call(7)))
	wantPlay(t, "several codes", m, turns(0, 6, 2, 4), nil,
		began(0, 0, 0), ended(1, 0, 0, 107), began(2, 0, 1), ended(3, 0, 1, 100), began(4, 0, 2), ended(5, 0, 2, 103),
		began(6, 2, 0), ended(7, 2, 0, 101), began(8, 2, 1), ended(9, 2, 1, 107))
}

func TestPlayNumbersOfThreads(t *testing.T) {
	numbers := append(slices.Clone(edges), 3, 4, 5)
	for count := range api.MaxThreads + 1 {
		m := machine([]int{5}, codes(nil), slices.Repeat([][]api.Call{calls(call(0))}, count)...)
		for _, number := range numbers {
			name := fmt.Sprintf("thread %d of %d", number, count)
			if number >= 0 && number < count {
				wantPlay(t, name, m, []int{number}, []int{5}, began(0, number, 0), ended(0, number, 0))
				continue
			}
			for _, length := range []int{1, 2, 10, api.MaxSteps} {
				if count == 0 && length > 1 {
					continue
				}
				for _, at := range []int{0, length / 2, length - 1} {
					schedule := make([]int, length)
					schedule[at] = number
					wantError(t, fmt.Sprintf("%s, at %d of %d", name, at, length), m, schedule, api.ErrRange)
				}
			}
		}
	}
}

// Errors alone and together: the first one of the document's order is returned.
func TestPlayErrorsInOrder(t *testing.T) {
	good := machine([]int{1}, codes(code(op(api.Emit, 0))), calls(call(0, 3)), nil)
	var wrong []api.Machine
	for _, change := range []func(m *api.Machine){
		func(m *api.Machine) { m.Words = upTo(api.MaxWords + 1) },
		func(m *api.Machine) { m.Codes = make([][]api.Op, api.MaxCodes+1) },
		func(m *api.Machine) { m.Codes = codes(code(op(0))) },
		func(m *api.Machine) { m.Codes = nil },
		func(m *api.Machine) { m.Threads = make([][]api.Call, api.MaxThreads+1) },
		func(m *api.Machine) { m.Threads = [][]api.Call{slices.Repeat(calls(call(0)), api.MaxCalls+1), nil} },
		func(m *api.Machine) { m.Threads = [][]api.Call{nil, calls(call(0), call(-1))} },
		func(m *api.Machine) { m.Threads = [][]api.Call{nil, calls(call(1))} },
		func(m *api.Machine) { m.Threads = [][]api.Call{nil, calls(call(0, upTo(api.MaxArgs+1)...))} },
	} {
		m := good
		change(&m)
		wrong = append(wrong, m)
	}
	for _, length := range []int{0, 1, 2, api.MaxSteps - 1, api.MaxSteps, api.MaxSteps + 1, api.MaxSteps + 2, 100000} {
		for _, number := range []int{1, -1, 2, 5, math.MinInt, math.MaxInt} {
			for _, at := range []int{0, length - 1} {
				if length == 0 {
					at = -1
				}
				schedule := make([]int, length)
				if at >= 0 {
					schedule[at] = number
				}
				name := fmt.Sprintf("%d steps, thread %d at %d", length, number, at)
				for i, m := range wrong {
					wantError(t, fmt.Sprint(name, ", wrong machine ", i), m, schedule, api.ErrForm)
				}
				if length > api.MaxSteps {
					wantError(t, name, good, schedule, api.ErrSize)
				} else if at >= 0 && number != 1 {
					wantError(t, name, good, schedule, api.ErrRange)
				} else if got := play(good, schedule); got.e != api.OK || !slices.Equal(got.words, []int{1}) {
					t.Errorf("%s: Play = %s", name, brief(got))
				}
			}
		}
	}
}

// actor follows the document and the comments of package api one instruction at a time, as a second way to the result of Play.
type actor struct {
	calls  []api.Call
	called int
	within bool
	at     int
	r      map[int]int
	told   []int
}

func truth(b bool) int {
	return map[bool]int{true: 1}[b]
}

func calculated(kind, b, c int) int {
	if c == 0 && (kind == api.Div || kind == api.Rem) {
		return 0
	}
	if c == -1 && kind == api.Div {
		return -b
	}
	if c == -1 && kind == api.Rem {
		return 0
	}
	return map[int]func() int{
		api.Add:  func() int { return b + c },
		api.Sub:  func() int { return b - c },
		api.Mul:  func() int { return b * c },
		api.Div:  func() int { return b / c },
		api.Rem:  func() int { return b % c },
		api.Same: func() int { return truth(b == c) },
		api.Less: func() int { return truth(b < c) },
	}[kind]()
}

func (a *actor) access(o api.Op, words []int) api.Errno {
	at := a.r[o.B] + o.C
	if at < 0 || at > len(words)-1 {
		return api.ErrRange
	}
	if o.Kind == api.Load {
		a.r[o.A] = words[at]
	} else if o.Kind == api.Store {
		words[at] = a.r[o.A]
	} else if words[at] != a.r[o.D] {
		a.r[o.A] = 0
	} else {
		words[at], a.r[o.A] = a.r[o.A], 1
	}
	return api.OK
}

func (a *actor) execute(c []api.Op, words []int) api.Errno {
	o := c[a.at]
	a.at++
	switch {
	case o.Kind == api.Set:
		a.r[o.A] = o.B
	case o.Kind == api.Copy:
		a.r[o.A] = a.r[o.B]
	case o.Kind >= api.Add && o.Kind <= api.Less:
		a.r[o.A] = calculated(o.Kind, a.r[o.B], a.r[o.C])
	case o.Kind == api.Jump:
		a.at = o.A
	case o.Kind == api.When && a.r[o.A] != 0, o.Kind == api.Unless && a.r[o.A] == 0:
		a.at = o.B
	case o.Kind == api.Load, o.Kind == api.Store, o.Kind == api.Cas:
		return a.access(o, words)
	case o.Kind == api.Emit && len(a.told) == api.MaxCode:
		return api.ErrFull
	case o.Kind == api.Emit:
		a.told = append(a.told, a.r[o.A])
	case o.Kind == api.Done:
		a.at = len(c)
	}
	return api.OK
}

func interpreted(m api.Machine, schedule []int) result {
	words := slices.Clone(m.Words)
	var actors []*actor
	for _, c := range m.Threads {
		actors = append(actors, &actor{calls: c})
	}
	var events []api.Event
	for step, number := range schedule {
		a := actors[number]
		if !a.within && a.called < len(a.calls) {
			a.within, a.at, a.r, a.told = true, 0, map[int]int{}, nil
			for i, n := range a.calls[a.called].Args {
				a.r[i] = n
			}
			events = append(events, began(step, number, a.called))
		}
		if !a.within {
			continue
		}
		c, e := m.Codes[a.calls[a.called].Code], api.OK
		if len(c) > 0 {
			e = a.execute(c, words)
		}
		if e != api.OK || a.at == len(c) {
			events = append(events, failed(step, number, a.called, e, a.told...))
			a.within = false
			a.called++
		}
	}
	return result{events, words, api.OK}
}

// source follows a fixed rule, so that the machines vary and the test stays repeatable.
type source uint64

func (s *source) below(n int) int {
	*s = *s*6364136223846793005 + 1442695040888963407
	return int(uint64(*s)>>33) % n
}

func (s *source) numbers(count int) []int {
	l := make([]int, count)
	for i := range l {
		l[i] = s.below(4)
		if s.below(8) == 0 {
			l[i] = edges[s.below(len(edges))]
		}
	}
	return l
}

// layouts has a letter for each of A, B, C and D of each kind: a register, a target of a jump, any number, or no operand.
var layouts = []string{"rn--", "rr--", "rrr-", "rrr-", "rrr-", "rrr-", "rrr-", "rrr-", "rrr-", "t---", "rt--", "rt--", "rrn-", "rrn-", "rrnr", "r---", "----"}

// mixedCode uses few registers and small addresses, so that the instructions have to do with each other.
func mixedCode(s *source, words int) []api.Op {
	length := s.below(16)
	registers := 1 + s.below(6)
	var c []api.Op
	for range length {
		kind := 1 + s.below(len(layouts))
		if s.below(4) == 0 {
			kind = api.Emit
		}
		fields := make([]int, 4)
		for i, letter := range []byte(layouts[kind-1]) {
			switch letter {
			case 'r':
				fields[i] = s.below(registers)
			case 't':
				fields[i] = s.below(length + 1)
			case 'n':
				fields[i] = s.below(words+1) - s.below(2)*s.below(2)
			}
		}
		c = append(c, op(kind, fields...))
	}
	return c
}

func mixedMachine(s *source) api.Machine {
	m := api.Machine{Words: s.numbers(s.below(6))}
	for range 1 + s.below(api.MaxCodes) {
		m.Codes = append(m.Codes, mixedCode(s, len(m.Words)))
	}
	for range 1 + s.below(api.MaxThreads) {
		var l []api.Call
		for range s.below(api.MaxCalls + 1) {
			l = append(l, call(s.below(len(m.Codes)), s.numbers(s.below(api.MaxArgs+1))...))
		}
		m.Threads = append(m.Threads, l)
	}
	return m
}

func TestPlayMixedMachines(t *testing.T) {
	seen := map[api.Errno]int{}
	for seed := range 20000 {
		s := source(seed)
		m := mixedMachine(&s)
		schedule := make([]int, s.below(1500))
		for i := range schedule {
			schedule[i] = s.below(len(m.Threads))
			if i > 0 && seed%2 == 0 && s.below(4) > 0 {
				schedule[i] = schedule[i-1]
			}
		}
		want := interpreted(m, schedule)
		for _, e := range want.events {
			if e.End {
				seen[e.Code]++
			}
		}
		wantMay(t, fmt.Sprint("seed ", seed), m, true)
		wantPlay(t, fmt.Sprint("seed ", seed), m, schedule, want.words, want.events...)
	}
	for _, e := range []api.Errno{api.OK, api.ErrRange, api.ErrFull} {
		if seen[e] < 100 {
			t.Errorf("only %d calls come to %d", seen[e], e)
		}
	}
}

// A thread on its own does what vm.Run does, one call behind the other.
func TestPlayOneThreadLikeRun(t *testing.T) {
	for seed := range 5000 {
		s := source(seed)
		m := mixedMachine(&s)
		m.Threads = m.Threads[:1]
		words, events, step := m.Words, []api.Event(nil), 0
		for i, c := range m.Threads[0] {
			told, after, steps, e := vm.Run(m.Codes[c.Code], c.Args, words, api.MaxSteps-step)
			words = after
			if steps > 0 || e != api.ErrOver {
				events = append(events, began(step, 0, i))
			}
			step += max(steps, 1)
			if e == api.ErrOver {
				break
			}
			events = append(events, failed(step-1, 0, i, e, told...))
			if step >= api.MaxSteps {
				break
			}
		}
		wantPlay(t, fmt.Sprint("seed ", seed), m, turns(0, api.MaxSteps), words, events...)
	}
}

// shared: a machine whose lists are parts of longer ones, two threads that have a list in common, and words that are arguments.
func shared() (m api.Machine, schedule []int, all []int) {
	all = upTo(300)
	c := append(bump(), op(api.Store, 2, 5, 1), op(api.Emit, 2), op(api.Load, 1, 5, 7), op(api.Emit, 3))
	list := calls(api.Call{Code: 1, Args: all[3:6]}, api.Call{Args: all[0:5]}, api.Call{Code: -5, Args: all[:20]})[:2]
	m = api.Machine{
		Words:   all[:5],
		Codes:   codes(c, c[:6], code(op(0)), c[:2])[:2],
		Threads: [][]api.Call{list, list, list, {{Code: 9}}}[:2],
	}
	schedule = []int{0, 0, 1, 0, 0, 1, 1, 1, 0, 0, 1, 1, 0, 0, 0, 0, 0, 0, 0, 1, 1, 1, 1, 1, 1, 1, -4, 9}[:26]
	return m, schedule, all
}

// The arguments stay as they are, including their spare capacity.
func TestArgumentsStay(t *testing.T) {
	m, schedule, all := shared()
	before, scheduleBefore, allBefore := shared()
	text := func(m api.Machine, schedule []int) string {
		return fmt.Sprint(m.Words[:cap(m.Words)], m.Codes[:4], m.Codes[0][:cap(m.Codes[0])][:8], m.Threads[:4], m.Threads[0][:3], schedule[:28])
	}
	want := text(before, scheduleBefore)
	for length := range 28 {
		May(m)
		Play(m, schedule[:length])
	}
	wide := m
	wide.Threads = wide.Threads[:4]
	May(wide)
	Play(wide, schedule)
	Play(m, make([]int, api.MaxSteps+1))
	if got := text(m, schedule); got != want || !slices.Equal(all, allBefore) {
		t.Errorf("the arguments became %s, want %s", got, want)
	}
}

// Results share memory neither with the arguments nor with each other nor with those of other calls.
func TestResultsAreNew(t *testing.T) {
	m, schedule, all := shared()
	want := interpreted(m, schedule)
	told := 0
	for i, e := range want.events {
		if len(e.Told) == 0 {
			continue
		}
		told++
		got := play(m, schedule)
		l := got.events[i].Told
		clear(l[:cap(l)])
		_ = append(l, 1, 2, 3, 4, 5, 6, 7, 8, 9)
		got.events[i].Told = e.Told
		if !got.equal(want) {
			t.Errorf("with other numbers of event %d the result became %s, want %s", i, brief(got), brief(want))
		}
	}
	if told != 4 {
		t.Errorf("%d events have numbers", told)
	}
	got := play(m, schedule)
	clear(got.words[:cap(got.words)])
	_ = append(got.words, 1, 2, 3, 4, 5, 6, 7, 8, 9)
	if got.words = want.words; !got.equal(want) {
		t.Errorf("with other words the result became %s, want %s", brief(got), brief(want))
	}
	got, other := play(m, schedule), play(m, schedule)
	clear(got.events[:cap(got.events)])
	if !slices.Equal(all, upTo(300)) {
		t.Errorf("with other results the arguments became %v", all)
	}
	clear(all)
	clear(schedule)
	for _, c := range m.Codes {
		clear(c)
	}
	clear(m.Codes)
	clear(m.Threads[0])
	clear(m.Threads)
	if !other.equal(want) {
		t.Errorf("without the arguments the result became %s, want %s", brief(other), brief(want))
	}
}

// A result depends on the arguments of its call only.
func TestCallsAreIndependent(t *testing.T) {
	m, schedule, _ := shared()
	want := interpreted(m, schedule)
	wantPlay(t, "at first", m, schedule, want.words, want.events...)
	Play(largest(), turns(3, api.MaxSteps))
	Play(machine(upTo(1000), nil), nil)
	Play(m, []int{2})
	May(machine(nil, nil, calls(call(-1))))
	wantPlay(t, "once more", m, schedule, want.words, want.events...)
	wantPlay(t, "the zero value", api.Machine{}, nil, nil)
}
