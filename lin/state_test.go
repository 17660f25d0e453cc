package lin

import (
	"slices"
	"testing"

	"barograph/api"
)

func TestStatesOfOtherKindsDiffer(t *testing.T) {
	states := []state{register(0), register(1), counter(0), counter(1), queue(nil), queue{1}, queue{1, 2}, queue{2, 1}, stack(nil), stack{1}, stack{1, 2}, stack{2, 1}}
	for i, a := range states {
		for j, b := range states {
			if a.same(b) != (i == j) {
				t.Errorf("%T %v same %T %v = %t", a, a, b, b, a.same(b))
			}
			if i == j && a.digest() != b.digest() {
				t.Errorf("%T %v has two digests", a, a)
			}
		}
	}
	if !(queue{}).same(queue(nil)) || queue(nil).digest() != (queue{5})[1:].digest() || !(stack{}).same((stack{5})[:0]) {
		t.Errorf("an empty list is not an empty list")
	}
}

// A state is used again after the search has gone on from it.
func TestStatesStay(t *testing.T) {
	for _, first := range []state{queue{1, 2, 3, 4}[:2], stack{1, 2, 3, 4}[:2]} {
		all, now := []state{first}, first
		var texts [][]int
		for _, a := range acts(get(0, 0, 0), put(0, 0, 7), get(0, 0, 0), put(0, 0, 8), put(0, 0, 9), get(0, 0, 0)) {
			now, _ = now.next(a)
			all = append(all, now)
		}
		for _, s := range all {
			texts = append(texts, elements(s))
		}
		for _, s := range all {
			for _, a := range acts(get(0, 0, 0), put(0, 0, 5), put(0, 0, 6)) {
				next, _ := s.next(a)
				next.next(put(0, 0, 77))
			}
		}
		for i, s := range all {
			if !slices.Equal(elements(s), texts[i]) {
				t.Errorf("%T: the state became %v, want %v", s, s, texts[i])
			}
		}
	}
}

// elements: a copy of those of a queue or a stack.
func elements(s state) []int {
	if q, ok := s.(queue); ok {
		return slices.Clone(q)
	}
	return slices.Clone(s.(stack))
}

// Two states with the same digest, after the same operations, are two states for the search.
func TestCheckEqualDigests(t *testing.T) {
	// The first sum of two elements is the one of a single element of which two bits differ; c makes up for it.
	a, b := 1, 2
	for {
		c := int(mixed([]int{a ^ 3})) ^ b ^ int(mixed([]int{b ^ 3}))
		if c > 2 {
			wantEqualDigests(t, a, b, c)
			return
		}
		b++
	}
}

func wantEqualDigests(t *testing.T, a, b, c int) {
	t.Helper()
	if (queue{a, b}).digest() != (queue{b, c}).digest() || (stack{a, b}).digest() != (stack{b, c}).digest() {
		t.Fatalf("the digests of %d, %d and of %d, %d differ", a, b, b, c)
	}
	for _, open := range []int{-1, 9} {
		for _, rest := range [][]int{{a, b}, {b, c}} {
			first := c
			if rest[0] == b {
				first = a
			}
			l := acts(put(0, 9, a), put(0, 9, b), put(0, 9, c), get(0, open, first))
			wantCheck(t, "a queue", api.Queue, 0, append(slices.Clone(l), get(10, 11, rest[0]), get(12, 13, rest[1])), true)
			wantCheck(t, "a stack", api.Stack, 0, append(slices.Clone(l), get(10, 11, rest[1]), get(12, 13, rest[0])), true)
		}
	}
}
