package vm

import (
	"slices"

	"barograph/api"
)

// Thread: what a thread has of its own within a call. Its code is valid, so that every register that an instruction
// names exists, and every jump ends within the code or directly behind it. The zero value is not within a call. A copy
// goes on independently of the original.
type Thread struct {
	code      []api.Op
	next      int // the number of the instruction that is executed next
	registers [api.MaxRegs]int
	told      []int
}

// Begin returns a thread at the start of a call. The error is ErrForm if the code is not valid, and ErrSize if there
// are more than MaxArgs arguments.
func Begin(code []api.Op, args []int) (Thread, api.Errno) {
	if !May(code) {
		return Thread{}, api.ErrForm
	}
	if len(args) > api.MaxArgs {
		return Thread{}, api.ErrSize
	}
	// The thread outlives this function, which may not keep what it is passed.
	t := Thread{code: slices.Clone(code)}
	copy(t.registers[:], args)
	return t, api.OK
}

// Ended reports whether the thread has nothing to execute: its call has ended, or it is not within one.
func (t *Thread) Ended() bool {
	return t.next == len(t.code)
}

// Told returns the numbers that the call has emitted up to now.
func (t *Thread) Told() []int {
	return slices.Clone(t.told)
}

// State returns the number of the instruction that is executed next, and the registers.
func (t *Thread) State() (next int, registers [api.MaxRegs]int) {
	return t.next, t.registers
}

// Step executes one instruction, if there is one, on the shared words, which it changes. An error, ErrRange or
// ErrFull, ends the call.
func (t *Thread) Step(words []int) api.Errno {
	if t.Ended() {
		return api.OK
	}
	op := t.code[t.next]
	t.next++
	e := t.execute(op, words)
	if e != api.OK {
		t.end()
	}
	return e
}

func (t *Thread) end() {
	t.next = len(t.code)
}

func (t *Thread) execute(op api.Op, words []int) api.Errno {
	switch op.Kind {
	case api.Set:
		t.registers[op.A] = op.B
	case api.Copy:
		t.registers[op.A] = t.registers[op.B]
	case api.Jump:
		t.next = op.A
	case api.When:
		if t.registers[op.A] != 0 {
			t.next = op.B
		}
	case api.Unless:
		if t.registers[op.A] == 0 {
			t.next = op.B
		}
	case api.Load, api.Store, api.Cas:
		return t.access(op, words)
	case api.Emit:
		return t.emit(t.registers[op.A])
	case api.Done:
		t.end()
	default:
		t.registers[op.A] = compute(op.Kind, t.registers[op.B], t.registers[op.C])
	}
	return api.OK
}

func compute(kind, b, c int) int {
	switch kind {
	case api.Add:
		return b + c
	case api.Sub:
		return b - c
	case api.Mul:
		return b * c
	case api.Div:
		if c != 0 {
			return b / c
		}
	case api.Rem:
		if c != 0 {
			return b % c
		}
	case api.Same:
		return truth(b == c)
	case api.Less:
		return truth(b < c)
	}
	return 0
}

func truth(holds bool) int {
	if holds {
		return 1
	}
	return 0
}

func (t *Thread) access(op api.Op, words []int) api.Errno {
	place := t.registers[op.B] + op.C
	if place < 0 || place >= len(words) {
		return api.ErrRange
	}
	switch op.Kind {
	case api.Load:
		t.registers[op.A] = words[place]
	case api.Store:
		words[place] = t.registers[op.A]
	case api.Cas:
		same := words[place] == t.registers[op.D]
		if same {
			words[place] = t.registers[op.A]
		}
		t.registers[op.A] = truth(same)
	}
	return api.OK
}

func (t *Thread) emit(n int) api.Errno {
	if len(t.told) == api.MaxCode {
		return api.ErrFull
	}
	// The memory behind told may be that of a copy, too.
	t.told = append(slices.Clip(t.told), n)
	return api.OK
}
