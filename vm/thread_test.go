package vm

import (
	"reflect"
	"slices"
	"testing"

	"barograph/api"
)

func wantThread(t *testing.T, name string, thread *Thread, ended bool, told ...int) {
	t.Helper()
	if thread.Ended() != ended || !slices.Equal(thread.Told(), told) {
		t.Errorf("%s: ended %t, told %v, want %t, %v", name, thread.Ended(), thread.Told(), ended, told)
	}
}

func wantStep(t *testing.T, name string, thread *Thread, words []int, want api.Errno) {
	t.Helper()
	if e := thread.Step(words); e != want {
		t.Errorf("%s: Step = %d, want %d", name, e, want)
	}
}

func TestBeginErrorsInOrder(t *testing.T) {
	good, bad := code(op(api.Emit, 0)), code(op(api.Emit, api.MaxRegs))
	for _, c := range []struct {
		name string
		code []api.Op
		args int
		want api.Errno
	}{
		{"nothing", nil, 0, api.OK},
		{"the most arguments", good, api.MaxArgs, api.OK},
		{"too many arguments", good, api.MaxArgs + 1, api.ErrSize},
		{"more of them than registers", good, api.MaxRegs + 1, api.ErrSize},
		{"a register that does not exist", bad, 0, api.ErrForm},
		{"both", bad, api.MaxArgs + 1, api.ErrForm},
	} {
		thread, e := Begin(c.code, make([]int, c.args))
		if e != c.want {
			t.Errorf("%s: Begin = %d, want %d", c.name, e, c.want)
		}
		if e != api.OK && !reflect.DeepEqual(thread, Thread{}) {
			t.Errorf("%s: Begin returns the thread %v", c.name, thread)
		}
	}
}

func TestThreadSteps(t *testing.T) {
	words := []int{4, 5}
	thread, _ := Begin(code(op(api.Emit, 1), op(api.Store, 0, 2, 1), op(api.Emit, 0)), []int{7, 8})
	wantThread(t, "at first", &thread, false)
	wantStep(t, "Emit", &thread, words, api.OK)
	wantThread(t, "after one step", &thread, false, 8)
	wantStep(t, "Store", &thread, words, api.OK)
	wantThread(t, "after two steps", &thread, false, 8)
	if !slices.Equal(words, []int{4, 7}) {
		t.Errorf("the words became %v", words)
	}
	wantStep(t, "Emit", &thread, words, api.OK)
	wantThread(t, "after three steps", &thread, true, 8, 7)
}

// A thread that has ended does nothing, also if it has not begun.
func TestThreadEnded(t *testing.T) {
	words := []int{4}
	done, _ := Begin(code(op(api.Done), op(api.Store, 0, 1)), []int{9})
	wantStep(t, "Done", &done, words, api.OK)
	failed, _ := Begin(code(op(api.Emit, 0), op(api.Load, 0, 0), op(api.Store, 0, 1)), []int{9})
	wantStep(t, "Emit", &failed, words, api.OK)
	wantStep(t, "Load", &failed, words, api.ErrRange)
	empty, _ := Begin(nil, []int{9})
	for _, c := range []struct {
		name   string
		thread Thread
		told   []int
	}{
		{"the zero value", Thread{}, nil},
		{"an empty code", empty, nil},
		{"Done", done, nil},
		{"an error", failed, []int{9}},
	} {
		for range 3 {
			wantThread(t, c.name, &c.thread, true, c.told...)
			wantStep(t, c.name, &c.thread, words, api.OK)
		}
	}
	if !slices.Equal(words, []int{4}) {
		t.Errorf("the words became %v", words)
	}
}

// The thread neither keeps what is passed to it nor gives away what it needs.
func TestThreadMemory(t *testing.T) {
	c, args := code(op(api.Emit, 0), op(api.Emit, 1), op(api.Emit, 0)), []int{5, 6}
	thread, _ := Begin(c, args)
	clear(c)
	clear(args)
	wantStep(t, "first", &thread, nil, api.OK)
	told := thread.Told()
	clear(told[:cap(told)])
	_ = append(told, 1, 2, 3)
	wantStep(t, "second", &thread, nil, api.OK)
	wantStep(t, "third", &thread, nil, api.OK)
	wantThread(t, "in the end", &thread, true, 5, 6, 5)
}

func TestThreadState(t *testing.T) {
	want := func(name string, thread *Thread, next int, registers ...int) {
		t.Helper()
		var all [api.MaxRegs]int
		copy(all[:], registers)
		if n, r := thread.State(); n != next || r != all {
			t.Errorf("%s: State = %d, %v, want %d, %v", name, n, r, next, all)
		}
	}
	want("the zero value", &Thread{}, 0)
	words := []int{4}
	thread, _ := Begin(code(op(api.Set, 1, 8), op(api.Load, 2, 3), op(api.When, 0, 1)), []int{7})
	want("at first", &thread, 0, 7)
	wantStep(t, "Set", &thread, words, api.OK)
	want("after one step", &thread, 1, 7, 8)
	wantStep(t, "Load", &thread, words, api.OK)
	want("after two steps", &thread, 2, 7, 8, 4)
	wantStep(t, "When", &thread, words, api.OK)
	want("after three steps", &thread, 1, 7, 8, 4)
}

// A thread and its copies emit different numbers.
func TestThreadCopies(t *testing.T) {
	words := []int{0}
	load, emit := op(api.Load, 0, 1), op(api.Emit, 0)
	thread, _ := Begin(code(emit, emit, emit, load, emit), []int{5})
	for range 3 {
		wantStep(t, "before", &thread, words, api.OK)
	}
	one, two := thread, thread
	for i, c := range []*Thread{&one, &two, &thread} {
		words[0] = 10 + i
		wantStep(t, "Load", c, words, api.OK)
		wantStep(t, "Emit", c, words, api.OK)
	}
	wantThread(t, "one copy", &one, true, 5, 5, 5, 10)
	wantThread(t, "the other copy", &two, true, 5, 5, 5, 11)
	wantThread(t, "the original", &thread, true, 5, 5, 5, 12)
}
