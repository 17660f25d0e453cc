package lin

import (
	"fmt"
	"slices"
	"testing"

	"barograph/api"
)

// executed follows P9.2, one operation after the other.
func executed(kind, first int, l []api.Act) bool {
	value, elements := first, []int(nil)
	for _, a := range l {
		returned := a.Value
		switch {
		case kind == api.Register && a.Put:
			value = a.Value
		case kind == api.Register:
			returned = value
		case kind == api.Counter:
			returned = value
			value += a.By
		case a.Put:
			elements = append(elements, a.Value)
		case len(elements) == 0:
			returned = -1
		case kind == api.Queue:
			returned, elements = elements[0], elements[1:]
		case kind == api.Stack:
			returned, elements = elements[len(elements)-1], elements[:len(elements)-1]
		}
		if a.End >= 0 && returned != a.Value {
			return false
		}
	}
	return true
}

// ordered: no operation of the sequence is behind one that begins after its end.
func ordered(sequence []api.Act) bool {
	for i, b := range sequence {
		for _, a := range sequence[i+1:] {
			if a.End >= 0 && a.End < b.Begin {
				return false
			}
		}
	}
	return true
}

// sequences counts the sequences of P9.3 by trying all of them, as a second way to the result of Check.
func sequences(kind, first int, l []api.Act) int {
	var count func(sequence, rest []api.Act) int
	count = func(sequence, rest []api.Act) int {
		if !ordered(sequence) || !executed(kind, first, sequence) {
			return 0
		}
		n := 0
		if !slices.ContainsFunc(rest, func(a api.Act) bool { return a.End >= 0 }) {
			n = 1
		}
		for i, a := range rest {
			n += count(append(slices.Clone(sequence), a), slices.Delete(slices.Clone(rest), i, i+1))
		}
		return n
	}
	return count(nil, l)
}

func TestCheckAllSmallHistories(t *testing.T) {
	for _, kind := range kinds {
		var all []api.Act
		for _, times := range [][2]int{{0, 0}, {0, 1}, {0, 2}, {1, 1}, {1, 2}, {2, 2}, {0, -1}, {1, -1}, {2, -1}} {
			switch kind {
			case api.Counter:
				all = append(all, add(times[0], times[1], 0, 1), add(times[0], times[1], 1, 1), add(times[0], times[1], 1, -1))
			case api.Register:
				all = append(all, put(times[0], times[1], 0), put(times[0], times[1], 1))
			default:
				all = append(all, put(times[0], times[1], 0), put(times[0], times[1], 1), get(times[0], times[1], -1))
			}
			all = append(all, get(times[0], times[1], 0), get(times[0], times[1], 1))
		}
		for _, a := range all {
			for _, b := range all {
				for _, c := range all {
					l := acts(a, b, c)
					want := sequences(kind, 0, l) > 0
					if ok, e := Check(kind, 0, l); ok != want || e != api.OK {
						t.Fatalf("Check(%d, 0, %v) = %t, %d, want %t", kind, l, ok, e, want)
					}
				}
			}
		}
	}
}

// source follows a fixed rule, so that the histories vary and the test stays repeatable.
type source uint64

func (s *source) below(n int) int {
	*s = *s*6364136223846793005 + 1442695040888963407
	return int(uint64(*s)>>33) % n
}

// value: one that an operation of this kind may have.
func (s *source) value(kind int, isPut bool) int {
	if isPut || kind == api.Register || kind == api.Counter {
		return s.below(4)
	}
	return s.below(4) - 1
}

func (s *source) shuffle(l []api.Act) {
	for i := range l {
		j := s.below(i + 1)
		l[i], l[j] = l[j], l[i]
	}
}

// linearizable: a history with the Values of an execution in which each operation takes place at some time between
// its Begin and its End. Of those that have not ended, some do not take place at all, and most return something else.
func linearizable(s *source, kind, first, length, width int) []api.Act {
	value, elements := first, []int(nil)
	var l []api.Act
	for i := range length {
		a := api.Act{Begin: max(0, 10*i-s.below(width)), End: 10*i + s.below(width), Put: s.below(2) == 0}
		a.Value = s.value(kind, a.Put)
		if kind == api.Counter && a.Put {
			a.By = s.below(5) - 2
		}
		if s.below(6) == 0 {
			a.End = -1
		}
		switch {
		case a.End == -1 && s.below(2) == 0:
		case kind == api.Register && a.Put:
			value = a.Value
		case kind == api.Queue && a.Put, kind == api.Stack && a.Put:
			elements = append(elements, a.Value)
		default:
			returned := value
			value += a.By
			if kind == api.Queue || kind == api.Stack {
				returned = -1
				if len(elements) > 0 && kind == api.Queue {
					returned, elements = elements[0], elements[1:]
				} else if len(elements) > 0 {
					returned, elements = elements[len(elements)-1], elements[:len(elements)-1]
				}
			}
			if a.End != -1 {
				a.Value = returned
			}
		}
		l = append(l, a)
	}
	s.shuffle(l)
	return l
}

func TestCheckLinearizableHistories(t *testing.T) {
	for seed := range 30000 {
		s := source(seed)
		kind, first := kinds[seed%4], s.below(4)
		l := linearizable(&s, kind, first, s.below(api.MaxActs+1), 1+s.below(100))
		if ok, e := Check(kind, first, l); !ok || e != api.OK {
			t.Fatalf("seed %d: Check(%d, %d, %v) = %t, %d", seed, kind, first, l, ok, e)
		}
	}
}

// One or two Values or times of a linearizable history are changed, which makes some of them not linearizable.
func TestCheckChangedHistories(t *testing.T) {
	seen := map[string]int{}
	for seed := range 40000 {
		s := source(seed)
		kind, first, length := kinds[seed%4], s.below(4), s.below(7)
		if seed%400 < 4 {
			length = 7 + s.below(3)
		}
		l := linearizable(&s, kind, first, length, 1+s.below(40))
		for range 1 + s.below(2) {
			if length > 0 {
				change(&s, kind, &l[s.below(length)])
			}
		}
		want := sequences(kind, first, l) > 0
		seen[fmt.Sprint(kind, want)]++
		if ok, e := Check(kind, first, l); ok != want || e != api.OK {
			t.Fatalf("seed %d: Check(%d, %d, %v) = %t, %d, want %t", seed, kind, first, l, ok, e, want)
		}
	}
	for _, kind := range kinds {
		for _, want := range []bool{true, false} {
			if seen[fmt.Sprint(kind, want)] < 1000 {
				t.Errorf("kind %d: there are only %d histories with the result %t", kind, seen[fmt.Sprint(kind, want)], want)
			}
		}
	}
}

func change(s *source, kind int, a *api.Act) {
	switch s.below(4) {
	case 0:
		a.Begin = s.below(a.Begin + 1)
	case 1:
		if a.End >= 0 {
			a.End = a.Begin + s.below(a.End-a.Begin+1)
		} else {
			a.End = a.Begin + s.below(20)
		}
	default:
		a.Value = s.value(kind, a.Put)
	}
}
