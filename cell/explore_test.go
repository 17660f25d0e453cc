package cell

import (
	"slices"
	"testing"

	"barograph/api"
)

// world: a machine under all schedules. Its numbers are small, so that many worlds can be kept.
type world struct {
	words   [48]int8
	threads [api.MaxThreads]worker
	begun   int8 // the number of Puts that have begun
	ended   int8 // the number of Puts that have ended
	told    int8 // the greatest number of a Put whose record has been told
}

// worker: a thread. The first one stores, and the others read.
type worker struct {
	registers [api.MaxRegs]int8
	within    bool
	next      int8
	steps     int8 // of the call
	left      int8 // the number of calls that have not begun
	low       int8 // the least number of a Put whose record the Get may tell
}

// explorer: of all schedules of the calls that the workers of the first world have left.
type explorer struct {
	t       *testing.T
	wide    int
	put     []api.Op
	get     []api.Op
	visited map[world]bool
	ends    int
}

func small(n int) int8 { return int8(n) }

// explore visits all worlds that this one can lead to.
func (x *explorer) explore(w world) {
	if x.visited[w] {
		return
	}
	x.visited[w] = true
	last := true
	for i := range w.threads {
		if w.threads[i].within || w.threads[i].left > 0 {
			last = false
			next := w
			x.advance(&next, i)
			x.explore(next)
			if x.t.Failed() {
				return
			}
		}
	}
	x.ends += truth(last)
}

// advance executes one instruction that accesses a shared word, and those around it that do not: other threads cannot
// see when these are executed. A call begins as late as possible and ends as early as possible, which is the most that
// can be asked of the history.
func (x *explorer) advance(w *world, i int) {
	v := &w.threads[i]
	code := x.get
	if i == 0 {
		code = x.put
	}
	if !v.within {
		x.begin(w, i)
	}
	for accessed := false; int(v.next) < len(code); {
		op := code[v.next]
		shares := op.Kind == api.Load || op.Kind == api.Store || op.Kind == api.Cas
		if shares && accessed {
			return
		}
		accessed = accessed || shares
		if op.Kind == api.Emit && !x.expects(w, v, op) {
			x.t.Errorf("wide %d: thread %d tells %d, between %d and %d", x.wide, i, v.registers[op.A], v.low, w.begun)
		}
		execute(w, v, op)
		if v.steps++; v.steps > bound {
			x.t.Errorf("wide %d: thread %d takes more than %d steps", x.wide, i, bound)
			return
		}
	}
	if i == 0 {
		w.ended++
	}
	*v = worker{left: v.left}
}

func (x *explorer) begin(w *world, i int) {
	v := &w.threads[i]
	*v = worker{within: true, left: v.left - 1}
	if i > 0 {
		v.low = max(w.ended, w.told)
		return
	}
	w.begun++
	for k := range x.wide {
		v.registers[k] = number(int(w.begun), k)
	}
}

// distance: of the numbers of two records.
const distance = 15

// number returns a number of the record of the n-th Put.
func number(n, k int) int8 {
	if n == 0 {
		return 0
	}
	return small(distance*n + k)
}

// expects compares what a Get is about to emit. The first number says which record it is, and the others, whose Emits
// follow at once, must be those of the same record.
func (x *explorer) expects(w *world, v *worker, op api.Op) bool {
	emit := func(o api.Op) bool { return o.Kind == api.Emit }
	k := int(v.next) - slices.IndexFunc(x.get, emit)
	if k == 0 {
		n := v.registers[op.A] / distance
		if n < v.low || n > w.begun {
			return false
		}
		v.low, w.told = n, max(w.told, n)
	}
	return v.registers[op.A] == number(int(v.low), k)
}

func execute(w *world, v *worker, op api.Op) {
	r := &v.registers
	v.next++
	switch op.Kind {
	case api.Set:
		r[op.A] = small(op.B)
	case api.Copy:
		r[op.A] = r[op.B]
	case api.Add:
		r[op.A] = r[op.B] + r[op.C]
	case api.Jump:
		v.next = small(op.A)
	case api.When:
		if r[op.A] != 0 {
			v.next = small(op.B)
		}
	case api.Load:
		r[op.A] = w.words[int(r[op.B])+op.C]
	case api.Store:
		w.words[int(r[op.B])+op.C] = r[op.A]
	case api.Cas:
		word := &w.words[int(r[op.B])+op.C]
		same := *word == r[op.D]
		if same {
			*word = r[op.A]
		}
		r[op.A] = small(truth(same))
	case api.Emit:
	default:
		panic("an instruction that this test does not know")
	}
}

// P10.2, and bounds of steps that are independent of other threads, for all schedules of some calls: no limit is set to
// the length of the schedules or to the number of changes between threads.
func TestAllSchedules(t *testing.T) {
	for _, c := range []struct {
		wide  int
		calls [api.MaxThreads]int8
	}{
		{1, [api.MaxThreads]int8{1, 1, 1, 1}},
		{1, [api.MaxThreads]int8{2, 2, 1}},
		{1, [api.MaxThreads]int8{3, 1, 1}},
		{1, [api.MaxThreads]int8{4, 4}},
		{2, [api.MaxThreads]int8{4, 3}},
		{6, [api.MaxThreads]int8{2, 2}},
	} {
		put, _ := Put(c.wide)
		get, _ := Get(c.wide)
		x := explorer{t: t, wide: c.wide, put: put, get: get, visited: map[world]bool{}}
		var first world
		for i, count := range c.calls {
			first.threads[i].left = count
		}
		x.explore(first)
		t.Logf("wide %d, calls %v: %d worlds, %d at the end", c.wide, c.calls, len(x.visited), x.ends)
		if x.ends == 0 {
			t.Errorf("wide %d, calls %v: no schedule ends", c.wide, c.calls)
		}
	}
}
