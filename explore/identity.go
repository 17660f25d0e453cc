package explore

import "slices"

// identity: what two states have in common if and only if they are equal. It takes less memory than a state.
type identity[Notes comparable] struct {
	numbers string
	notes   Notes
}

func (w *state[Notes]) identity() identity[Notes] {
	b := list(nil, w.words)
	for i := range w.threads {
		t := &w.threads[i]
		within := 0
		if t.within {
			within = 1
		}
		next, registers := t.State()
		for _, n := range []int{within, t.call, t.steps, next} {
			b = number(b, n)
		}
		told := t.Told()
		b = number(list(b, registers[:]), len(told))
		b = list(b, told)
	}
	return identity[Notes]{string(b), w.notes}
}

func (w *state[Notes]) clone() state[Notes] {
	return state[Notes]{slices.Clone(w.words), slices.Clone(w.threads), w.notes}
}

// list appends the numbers up to the last one that is not 0, after how many these are. Two lists of the same length
// are written differently if they are different.
func list(b []byte, numbers []int) []byte {
	for len(numbers) > 0 && numbers[len(numbers)-1] == 0 {
		numbers = numbers[:len(numbers)-1]
	}
	b = number(b, len(numbers))
	for _, n := range numbers {
		b = number(b, n)
	}
	return b
}

// number appends a number in groups of 7 bits, so that numbers near 0 take one byte.
func number(b []byte, n int) []byte {
	folded := uint(n)<<1 ^ uint(n>>63)
	for ; folded >= 128; folded >>= 7 {
		b = append(b, byte(folded)|128)
	}
	return append(b, byte(folded))
}
