package lin

import (
	"slices"

	"barograph/api"
)

// state: of an object between two operations. It never changes.
type state interface {
	// next returns the state after the operation, and the Value that the operation has to have.
	next(a api.Act) (state, int)
	same(other state) bool
	// digest is equal for two states that are the same.
	digest() uint64
}

// initial takes a valid kind.
func initial(kind, first int) state {
	switch kind {
	case api.Register:
		return register(first)
	case api.Counter:
		return counter(first)
	case api.Queue:
		return queue(nil)
	}
	return stack(nil)
}

type register int

func (r register) next(a api.Act) (state, int) {
	if a.Put {
		return register(a.Value), a.Value
	}
	return r, int(r)
}

func (r register) same(other state) bool {
	o, ok := other.(register)
	return ok && o == r
}

func (r register) digest() uint64 { return uint64(r) }

type counter int

func (c counter) next(a api.Act) (state, int) {
	if a.Put {
		return c + counter(a.By), int(c)
	}
	return c, int(c)
}

func (c counter) same(other state) bool {
	o, ok := other.(counter)
	return ok && o == c
}

func (c counter) digest() uint64 { return uint64(c) }

// queue: its elements, the one that was inserted first at the front.
type queue []int

func (q queue) next(a api.Act) (state, int) {
	if a.Put {
		return queue(inserted(q, a.Value)), a.Value
	}
	if len(q) == 0 {
		return q, nothing
	}
	return q[1:], q[0]
}

func (q queue) same(other state) bool {
	o, ok := other.(queue)
	return ok && slices.Equal(o, q)
}

func (q queue) digest() uint64 { return mixed(q) }

// stack: its elements, the one that was inserted last at the end.
type stack []int

func (s stack) next(a api.Act) (state, int) {
	if a.Put {
		return stack(inserted(s, a.Value)), a.Value
	}
	if len(s) == 0 {
		return s, nothing
	}
	top := len(s) - 1
	return s[:top], s[top]
}

func (s stack) same(other state) bool {
	o, ok := other.(stack)
	return ok && slices.Equal(o, s)
}

func (s stack) digest() uint64 { return mixed(s) }

// inserted always copies the elements, because other states may have memory in common with them.
func inserted(elements []int, value int) []int {
	return append(slices.Clip(elements), value)
}

// mixed depends on the order of the elements. Each sum is folded, so that elements that differ in their high bits
// alone lead to different sums too.
func mixed(elements []int) uint64 {
	sum := uint64(len(elements))
	for _, e := range elements {
		sum = (sum ^ uint64(e)) * 0x9e3779b97f4a7c15
		sum ^= sum >> 32
	}
	return sum
}
