package trial

import (
	"fmt"
	"math/rand"
	"slices"
	"strings"
	"testing"

	"barograph/api"
	"barograph/lin"
)

// object: of a kind of package lin, whose states are texts. A call with the code 1 is a Put.
type object struct {
	kind int
	next func(state string, c Call) (string, bool)
}

const put = 1

func tells(c Call, n int) bool { return !c.Ended() || c.Told[0] == n }

func number(text string) int {
	var n int
	fmt.Sscan(text, &n)
	return n
}

var objects = []object{
	{api.Register, func(state string, c Call) (string, bool) {
		if c.Code == put {
			return fmt.Sprint(c.Args[0]), true
		}
		return state, tells(c, number(state))
	}},
	{api.Counter, func(state string, c Call) (string, bool) {
		n := number(state)
		fits := tells(c, n)
		if c.Code == put {
			n += c.Args[0]
		}
		return fmt.Sprint(n), fits
	}},
	{api.Queue, func(state string, c Call) (string, bool) {
		if c.Code == put {
			return state + fmt.Sprint(c.Args[0], " "), true
		}
		first, others, found := strings.Cut(state, " ")
		if !found {
			return state, tells(c, -1)
		}
		return others, tells(c, number(first))
	}},
	{api.Stack, func(state string, c Call) (string, bool) {
		if c.Code == put {
			return fmt.Sprint(c.Args[0], " ") + state, true
		}
		last, others, found := strings.Cut(state, " ")
		if !found {
			return state, tells(c, -1)
		}
		return others, tells(c, number(last))
	}},
}

// act: the same for package lin.
func (o object) act(c Call) api.Act {
	a := api.Act{Begin: c.Begin, End: c.End, Put: c.Code == put}
	if o.kind == api.Counter || !a.Put {
		if c.Ended() {
			a.Value = c.Told[0]
		}
		if a.Put {
			a.By = c.Args[0]
		}
	} else {
		a.Value = c.Args[0]
	}
	return a
}

// wantLinear compares the answer with that of package lin.
func (o object) wantLinear(t *testing.T, name string, calls []Call) bool {
	t.Helper()
	var acts []api.Act
	for _, c := range calls {
		acts = append(acts, o.act(c))
	}
	first := ""
	if o.kind == api.Register || o.kind == api.Counter {
		first = "0"
	}
	want, e := lin.Check(o.kind, 0, acts)
	if e != api.OK {
		t.Fatalf("%s: Check = %d: %v", name, e, acts)
	}
	if got := Linear(calls, first, o.next); got != want {
		t.Fatalf("%s: kind %d: Linear = %t, want %t: %v", name, o.kind, got, want, acts)
	}
	return want
}

// some returns a history of a few calls. Each takes effect at one of its steps, and tells now and then something else.
func (o object) some(r *rand.Rand) []Call {
	var calls []Call
	for thread := range 1 + r.Intn(api.MaxThreads) {
		time := 0
		for number := range r.Intn(4) {
			begin := time + r.Intn(4)
			end := begin + r.Intn(6)
			c := Call{Call: api.Call{Code: r.Intn(2), Args: []int{r.Intn(3)}}, Thread: thread, Number: number, Begin: begin, End: end}
			calls = append(calls, c)
			time = end + 1
		}
	}
	calls = calls[:min(len(calls), api.MaxActs)]
	o.tell(r, calls)
	for i, c := range calls {
		if last := i+1 == len(calls) || calls[i+1].Thread != c.Thread; last && r.Intn(3) == 0 {
			calls[i].End, calls[i].Told = Open, nil
		} else if r.Intn(4*len(calls)) == 0 {
			calls[i].Told = []int{r.Intn(3)}
		}
	}
	r.Shuffle(len(calls), func(i, j int) { calls[i], calls[j] = calls[j], calls[i] })
	slices.SortStableFunc(calls, func(a, b Call) int { return a.Number - b.Number })
	return calls
}

// tell executes the calls in some order of steps that they include.
func (o object) tell(r *rand.Rand, calls []Call) {
	order := make([]int, len(calls))
	steps := make([]int, len(calls))
	for i, c := range calls {
		order[i] = i
		steps[i] = c.Begin + r.Intn(c.End-c.Begin+1)
	}
	r.Shuffle(len(order), func(i, j int) { order[i], order[j] = order[j], order[i] })
	slices.SortStableFunc(order, func(i, j int) int { return steps[i] - steps[j] })
	state := ""
	for _, i := range order {
		for n := -1; ; n++ {
			calls[i].Told = []int{n}
			if after, fits := o.next(state, calls[i]); fits {
				state = after
				break
			}
		}
	}
}

// Both ways agree on histories of all kinds.
func TestLinear(t *testing.T) {
	for _, o := range objects {
		count := map[bool]int{}
		for seed := range 20000 {
			calls := o.some(rand.New(rand.NewSource(int64(seed))))
			count[o.wantLinear(t, fmt.Sprint("seed ", seed), calls)]++
		}
		if min(count[true], count[false]) < 1000 {
			t.Errorf("kind %d: so many of each: %v", o.kind, count)
		}
	}
}

// many: four threads add at the same time, again and again. Each call takes effect at a step of its own.
func many() []Call {
	var calls []Call
	value := 0
	for round := range 200 {
		for thread := range api.MaxThreads {
			begin := 10*round + 2*thread
			c := Call{Call: api.Call{Code: put, Args: []int{1 + thread}}, Thread: thread, Number: round, Begin: begin, End: begin + 8, Told: []int{value}}
			calls = append(calls, c)
			value += 1 + thread
		}
	}
	return calls
}

// There may be many more calls than package lin takes.
func TestLinearOfManyCalls(t *testing.T) {
	counter := objects[1]
	if calls := many(); !Linear(calls, "0", counter.next) {
		t.Error("many calls are not linearizable")
	}
	for i := 0; i < len(many()); i += 37 {
		calls := many()
		calls[i].Told = []int{calls[i].Told[0] + 1}
		if Linear(calls, "0", counter.next) {
			t.Errorf("many calls are linearizable although call %d tells something else", i)
		}
	}
	calls := many()
	calls[len(calls)-1].End, calls[len(calls)-2].End = Open, Open
	if !Linear(calls, "0", counter.next) {
		t.Error("many calls are not linearizable if some have not ended")
	}
	if Linear(many(), "1", counter.next) {
		t.Error("many calls are linearizable from another state on")
	}
}

func TestLinearWithoutCalls(t *testing.T) {
	never := func(int, Call) (int, bool) { return 0, false }
	if !Linear(nil, 5, never) {
		t.Error("no calls are not linearizable")
	}
	if open := (Call{End: Open}); !Linear([]Call{open}, 5, never) {
		t.Error("a call that has not ended is not linearizable")
	}
	if Linear([]Call{{}}, 5, never) {
		t.Error("a call that does not fit is linearizable")
	}
}
