package vm

import "barograph/api"

// thread: what a thread has of its own within a call. Its code is valid, so that every register that an instruction
// names exists, and every jump ends within the code or directly behind it.
type thread struct {
	code      []api.Op
	next      int // the number of the instruction that is executed next
	registers [api.MaxRegs]int
	told      []int
}

func begin(code []api.Op, args []int) thread {
	t := thread{code: code}
	copy(t.registers[:], args)
	return t
}

func (t *thread) ended() bool {
	return t.next == len(t.code)
}

// step executes one instruction of a call that has not ended.
func (t *thread) step(words []int) api.Errno {
	op := t.code[t.next]
	t.next++
	switch op.Kind {
	case api.Set:
		t.registers[op.A] = op.B
	case api.Copy:
		t.registers[op.A] = t.registers[op.B]
	case api.Jump:
		t.next = op.A
	case api.When:
		if t.registers[op.A] != 0 {
			t.next = op.B
		}
	case api.Unless:
		if t.registers[op.A] == 0 {
			t.next = op.B
		}
	case api.Load, api.Store, api.Cas:
		return t.access(op, words)
	case api.Emit:
		return t.emit(t.registers[op.A])
	case api.Done:
		t.next = len(t.code)
	default:
		t.registers[op.A] = compute(op.Kind, t.registers[op.B], t.registers[op.C])
	}
	return api.OK
}

func compute(kind, b, c int) int {
	switch kind {
	case api.Add:
		return b + c
	case api.Sub:
		return b - c
	case api.Mul:
		return b * c
	case api.Div:
		if c != 0 {
			return b / c
		}
	case api.Rem:
		if c != 0 {
			return b % c
		}
	case api.Same:
		return truth(b == c)
	case api.Less:
		return truth(b < c)
	}
	return 0
}

func truth(holds bool) int {
	if holds {
		return 1
	}
	return 0
}

func (t *thread) access(op api.Op, words []int) api.Errno {
	place := t.registers[op.B] + op.C
	if place < 0 || place >= len(words) {
		return api.ErrRange
	}
	switch op.Kind {
	case api.Load:
		t.registers[op.A] = words[place]
	case api.Store:
		words[place] = t.registers[op.A]
	case api.Cas:
		same := words[place] == t.registers[op.D]
		if same {
			words[place] = t.registers[op.A]
		}
		t.registers[op.A] = truth(same)
	}
	return api.OK
}

func (t *thread) emit(n int) api.Errno {
	if len(t.told) == api.MaxCode {
		return api.ErrFull
	}
	t.told = append(t.told, n)
	return api.OK
}
