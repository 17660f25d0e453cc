package lin

import (
	"fmt"
	"math"
	"slices"
	"testing"

	"barograph/api"
)

// edges are numbers near which a comparison, a wraparound or a sign may go wrong.
var edges = []int{math.MinInt, math.MinInt + 1, -1 << 32, -2, -1, 0, 1, 2, 1 << 32, math.MaxInt - 1, math.MaxInt}

var kinds = []int{api.Register, api.Counter, api.Queue, api.Stack}

func put(begin, end, value int) api.Act {
	return api.Act{Begin: begin, End: end, Put: true, Value: value}
}

func get(begin, end, value int) api.Act {
	return api.Act{Begin: begin, End: end, Value: value}
}

func add(begin, end, value, by int) api.Act {
	return api.Act{Begin: begin, End: end, Put: true, Value: value, By: by}
}

func acts(list ...api.Act) []api.Act { return list }

// oneByOne gives the operations times that do not overlap.
func oneByOne(list ...api.Act) []api.Act {
	for i := range list {
		list[i].Begin, list[i].End = 2*i, 2*i+1
	}
	return list
}

// arrangements: the list in every order, or, if these are too many, each rotation of it, forward and backward.
func arrangements(l []api.Act) [][]api.Act {
	if len(l) > 5 {
		var list [][]api.Act
		for i := range l {
			turned := slices.Concat(l[i:], l[:i])
			back := slices.Clone(turned)
			slices.Reverse(back)
			list = append(list, turned, back)
		}
		return list
	}
	list := [][]api.Act{nil}
	for _, a := range l {
		var longer [][]api.Act
		for _, shorter := range list {
			for at := range len(shorter) + 1 {
				longer = append(longer, slices.Insert(slices.Clone(shorter), at, a))
			}
		}
		list = longer
	}
	return list
}

func wantMay(t *testing.T, name string, kind int, l []api.Act, want bool) {
	t.Helper()
	if got := May(kind, l); got != want {
		t.Errorf("%s: May(%d, %.500s) = %t, want %t", name, kind, fmt.Sprint(l), got, want)
	}
}

// wantForm takes a history that is valid or not, which both functions have to find.
func wantForm(t *testing.T, name string, kind int, l []api.Act, valid bool) {
	t.Helper()
	wantMay(t, name, kind, l, valid)
	for _, first := range []int{math.MinInt, -1, 0, 3} {
		ok, e := Check(kind, first, l)
		if valid && e != api.OK || !valid && (ok || e != api.ErrForm) {
			t.Errorf("%s: Check(%d, %d, %.500s) = %t, %d, and valid is %t", name, kind, first, fmt.Sprint(l), ok, e, valid)
		}
	}
}

// wantCheck takes a valid history. Where an operation is in the list does not matter.
func wantCheck(t *testing.T, name string, kind, first int, l []api.Act, want bool) {
	t.Helper()
	wantMay(t, name, kind, l, true)
	for _, arranged := range arrangements(l) {
		if ok, e := Check(kind, first, arranged); ok != want || e != api.OK {
			t.Errorf("%s: Check(%d, %d, %v) = %t, %d, want %t", name, kind, first, arranged, ok, e, want)
		}
	}
}

// wantOrders takes the number of sequences that show that the history is linearizable.
func wantOrders(t *testing.T, name string, kind, first int, l []api.Act, want int) {
	t.Helper()
	if got := sequences(kind, first, l); got != want {
		t.Errorf("%s: there are %d sequences, the test says %d: %v", name, got, want, l)
	}
	wantCheck(t, name, kind, first, l, want > 0)
}

// P9.1: the document's example.
func TestMayEmptyHistory(t *testing.T) {
	for _, kind := range kinds {
		wantForm(t, "no list", kind, nil, true)
		wantForm(t, "an empty list", kind, acts(), true)
		wantForm(t, "an empty list with spare capacity", kind, acts(get(-5, -5, -5))[:0], true)
	}
}

func TestMayOrdinaryHistories(t *testing.T) {
	wantForm(t, "a register", api.Register, acts(put(1, 5, 7), get(2, 3, -7), get(4, -1, 0)), true)
	wantForm(t, "a counter", api.Counter, acts(add(1, 5, 7, -3), add(2, 3, -7, 8), get(4, -1, 0)), true)
	wantForm(t, "a queue", api.Queue, acts(put(1, 5, 7), get(2, 3, -1), get(4, -1, 0)), true)
	wantForm(t, "a stack", api.Stack, acts(put(1, 5, 7), get(2, 3, -1), get(4, -1, 0)), true)
}

func TestMayKinds(t *testing.T) {
	for _, kind := range append(slices.Clone(edges), 3, 4, 5, 6, 100) {
		valid := kind >= 1 && kind <= 4
		wantForm(t, "an empty history", kind, nil, valid)
		wantForm(t, "a Put", kind, acts(put(0, 1, 3)), valid)
		wantForm(t, "three operations", kind, acts(put(0, 1, 3), get(1, 2, 0), get(2, -1, 3)), valid)
	}
}

func TestMayLength(t *testing.T) {
	for _, kind := range kinds {
		for _, count := range []int{0, 1, api.MaxActs - 1, api.MaxActs, api.MaxActs + 1, api.MaxActs + 2, 64, 65, 1000, 100000} {
			for _, a := range acts(put(2, 3, 3), get(0, 0, 0), put(0, -1, 0)) {
				wantForm(t, fmt.Sprint(count, " operations"), kind, slices.Repeat(acts(a), count), count <= api.MaxActs)
			}
		}
		for count := range api.MaxActs + 1 {
			wantForm(t, "spare capacity", kind, slices.Repeat(acts(get(0, 0, 0)), 20)[:count], true)
		}
	}
}

func TestMayBegin(t *testing.T) {
	for _, kind := range kinds {
		for _, begin := range append(slices.Clone(edges), api.MaxCount-1, api.MaxCount, api.MaxCount+1) {
			valid := begin >= 0 && begin <= api.MaxCount
			wantForm(t, "a Put that has not ended", kind, acts(put(begin, -1, 3)), valid)
			wantForm(t, "another one that has not ended", kind, acts(get(begin, -1, 3)), valid)
			wantForm(t, "End is MaxCount", kind, acts(put(begin, api.MaxCount, 3)), valid)
			wantForm(t, "End is Begin", kind, acts(get(begin, begin, 3)), valid)
		}
	}
}

func TestMayEnd(t *testing.T) {
	for _, kind := range kinds {
		for _, begin := range []int{0, 1, 2, 50, api.MaxCount - 1, api.MaxCount} {
			for _, end := range append(slices.Clone(edges), 49, 50, 51, api.MaxCount-2, api.MaxCount-1, api.MaxCount, api.MaxCount+1) {
				valid := end == -1 || end >= begin && end <= api.MaxCount
				wantForm(t, "a Put", kind, acts(put(begin, end, 3)), valid)
				wantForm(t, "another one", kind, acts(get(begin, end, 3)), valid)
			}
		}
	}
}

func TestMayBy(t *testing.T) {
	for _, kind := range kinds {
		for _, end := range []int{-1, 4} {
			for _, by := range edges {
				wantForm(t, "a Put", kind, acts(add(2, end, 3, by)), by == 0 || kind == api.Counter)
				wantForm(t, "another one", kind, acts(api.Act{Begin: 2, End: end, Value: 3, By: by}), by == 0)
			}
		}
	}
}

func TestMayValue(t *testing.T) {
	for _, kind := range kinds {
		any := kind == api.Register || kind == api.Counter
		for _, end := range []int{-1, 4} {
			for _, value := range append(slices.Clone(edges), -3, api.MaxCount+1) {
				wantForm(t, "a Put", kind, acts(put(2, end, value)), any || value >= 0)
				wantForm(t, "another one", kind, acts(get(2, end, value)), any || value >= -1)
			}
		}
	}
}

// An operation that is not valid is found at each place.
func TestMayOneWrongOperation(t *testing.T) {
	for _, kind := range kinds {
		wrong := acts(put(-1, 2, 3), get(-1, -1, 3), put(api.MaxCount+1, -1, 3), put(2, 1, 3), get(1, 0, 3), put(2, -2, 3), get(2, api.MaxCount+1, 3),
			api.Act{Begin: 2, End: 3, Value: 3, By: 1}, api.Act{Begin: 2, End: -1, Value: 3, By: -1})
		if kind != api.Counter {
			wrong = append(wrong, add(2, 3, 3, 1), add(2, -1, 3, -1))
		}
		if kind == api.Queue || kind == api.Stack {
			wrong = append(wrong, put(2, 3, -1), put(2, -1, -1), get(2, 3, -2), get(2, -1, -2))
		}
		for _, a := range wrong {
			for _, count := range []int{1, 2, 5, api.MaxActs} {
				for at := range count {
					l := slices.Repeat(acts(put(2, 3, 3), get(1, -1, 3)), count)[:count]
					wantMay(t, "without the wrong one", kind, l, true)
					l[at] = a
					wantForm(t, fmt.Sprint("wrong at ", at), kind, l, false)
				}
			}
		}
	}
}

// allowed says P9.1 for one operation, condition by condition.
func allowed(kind int, a api.Act) bool {
	conditions := []bool{
		kind == api.Register || kind == api.Counter || kind == api.Queue || kind == api.Stack,
		a.Begin >= 0,
		a.Begin <= api.MaxCount,
		a.End == -1 || a.End >= a.Begin,
		a.End == -1 || a.End <= api.MaxCount,
		a.By == 0 || kind == api.Counter,
		a.By == 0 || a.Put,
		kind != api.Queue && kind != api.Stack || a.Value >= 0 || a.Value == -1 && !a.Put,
	}
	return !slices.Contains(conditions, false)
}

func TestMayAllConditions(t *testing.T) {
	times := []int{math.MinInt, -2, -1, 0, 1, 2, api.MaxCount - 1, api.MaxCount, api.MaxCount + 1, math.MaxInt}
	valid := 0
	for _, kind := range []int{-1, 0, 1, 2, 3, 4, 5} {
		for _, begin := range times {
			for _, end := range times {
				for _, value := range []int{math.MinInt, -2, -1, 0, 1, math.MaxInt} {
					for _, by := range []int{math.MinInt, -1, 0, 1, math.MaxInt} {
						for _, isPut := range []bool{false, true} {
							a := api.Act{Begin: begin, End: end, Put: isPut, Value: value, By: by}
							wantForm(t, "one operation", kind, acts(a), allowed(kind, a))
							if allowed(kind, a) {
								valid++
							}
						}
					}
				}
			}
		}
	}
	// Each of 5 Begins may be an End too, of itself and of those before it, and each may go with -1. A Register has 12
	// pairs of Put and Value, a Counter 30 additions and 6 reads, a Queue and a Stack 3 insertions and 4 removals each.
	if want := (5 + 4 + 3 + 2 + 1 + 5) * (12 + 30 + 6 + 2*(3+4)); valid != want {
		t.Errorf("%d operations are valid, want %d", valid, want)
	}
}

// P9.3: the document's example.
func TestCheckExample(t *testing.T) {
	wantOrders(t, "a read of an old value", api.Register, 0, acts(put(0, 1, 1), put(2, 3, 2), get(4, 5, 1)), 0)
	wantOrders(t, "a read of the last value", api.Register, 0, acts(put(0, 1, 1), put(2, 3, 2), get(4, 5, 2)), 1)
	wantOrders(t, "a read of an old value that is the first one", api.Register, 1, acts(put(2, 3, 2), get(4, 5, 1)), 0)
	wantOrders(t, "one that begins before the end of the write", api.Register, 0, acts(put(0, 1, 1), put(2, 4, 2), get(4, 5, 1)), 1)
}

func TestCheckEmptyHistory(t *testing.T) {
	for _, kind := range kinds {
		for _, first := range edges {
			wantOrders(t, "nothing", kind, first, nil, 1)
			wantOrders(t, "nothing", kind, first, acts(), 1)
		}
	}
}

func TestCheckErrors(t *testing.T) {
	wantForm(t, "not linearizable either", api.Queue, acts(put(1, 2, -1), get(3, 4, 8)), false)
	wantForm(t, "no such kind", 0, acts(get(3, 4, 8)), false)
	wantForm(t, "no such kind", 5, nil, false)
	for _, kind := range kinds {
		wantForm(t, "linearizable otherwise", kind, append(slices.Repeat(acts(put(1, -1, 1)), 8), put(2, 1, 1)), false)
		wantForm(t, "too many", kind, slices.Repeat(acts(put(1, -1, 1)), api.MaxActs+1), false)
	}
}

// sequential: histories of MaxActs operations that do not overlap.
func sequential() map[string]history {
	return map[string]history{
		"register": {api.Register, 4, oneByOne(get(0, 0, 4), put(0, 0, 7), get(0, 0, 7), get(0, 0, 7), put(0, 0, -3), put(0, 0, 9), get(0, 0, 9), put(0, 0, 9), get(0, 0, 9))},
		"counter":  {api.Counter, 4, oneByOne(get(0, 0, 4), add(0, 0, 4, 3), get(0, 0, 7), add(0, 0, 7, -9), add(0, 0, -2, 0), add(0, 0, -2, 2), get(0, 0, 0), add(0, 0, 0, 1), get(0, 0, 1))},
		"queue":    {api.Queue, 4, oneByOne(get(0, 0, -1), put(0, 0, 7), put(0, 0, 8), get(0, 0, 7), put(0, 0, 0), get(0, 0, 8), get(0, 0, 0), get(0, 0, -1), get(0, 0, -1))},
		"stack":    {api.Stack, 4, oneByOne(get(0, 0, -1), put(0, 0, 7), put(0, 0, 8), get(0, 0, 8), put(0, 0, 0), get(0, 0, 0), get(0, 0, 7), get(0, 0, -1), get(0, 0, -1))},
	}
}

// history: of an object, with the value that it has initially.
type history struct {
	kind, first int
	acts        []api.Act
}

// P9.2: each operation that returns a value has to have this one and no other.
func TestCheckSequentialHistories(t *testing.T) {
	for name, h := range sequential() {
		for count := range len(h.acts) + 1 {
			wantOrders(t, name, h.kind, h.first, h.acts[:count], 1)
		}
		for i, a := range h.acts {
			if a.Put && h.kind != api.Counter {
				continue
			}
			for _, value := range []int{-1, 0, 1, 2, 4, 7, 8, 9, 100} {
				l := slices.Clone(h.acts)
				l[i].Value = value
				wantCheck(t, fmt.Sprint(name, " with ", value, " at ", i), h.kind, h.first, l, value == a.Value)
			}
		}
	}
}

// The same times with an operation more, or without one that matters.
func TestCheckSequentialPuts(t *testing.T) {
	wantOrders(t, "an addition without a read", api.Counter, 1, oneByOne(add(0, 0, 1, 4), add(0, 0, 5, -5)), 1)
	wantOrders(t, "an addition that returns the sum", api.Counter, 1, oneByOne(add(0, 0, 5, 4)), 0)
	wantOrders(t, "writes alone", api.Register, 1, oneByOne(put(0, 0, 4), put(0, 0, 4), put(0, 0, -5)), 1)
	wantOrders(t, "a write that is missing", api.Register, 1, oneByOne(get(0, 0, 1), get(0, 0, 2)), 0)
	for _, kind := range []int{api.Queue, api.Stack} {
		wantOrders(t, "insertions alone", kind, 1, oneByOne(put(0, 0, 4), put(0, 0, 4), put(0, 0, 5)), 1)
		wantOrders(t, "an insertion that is missing", kind, 1, oneByOne(put(0, 0, 4), get(0, 0, 5)), 0)
		wantOrders(t, "an insertion after the removal", kind, 1, oneByOne(get(0, 0, 5), put(0, 0, 5)), 0)
		wantOrders(t, "a removal of nothing in spite of an element", kind, 1, oneByOne(put(0, 0, 5), get(0, 0, -1)), 0)
		wantOrders(t, "the last element stays", kind, 1, oneByOne(put(0, 0, 5), put(0, 0, 5), get(0, 0, 5)), 1)
	}
	wantOrders(t, "first in, first out", api.Queue, 0, oneByOne(put(0, 0, 4), put(0, 0, 5), put(0, 0, 6), get(0, 0, 4), get(0, 0, 5), get(0, 0, 6)), 1)
	wantOrders(t, "first in, first out", api.Stack, 0, oneByOne(put(0, 0, 4), put(0, 0, 5), put(0, 0, 6), get(0, 0, 4), get(0, 0, 5), get(0, 0, 6)), 0)
	wantOrders(t, "last in, first out", api.Stack, 0, oneByOne(put(0, 0, 4), put(0, 0, 5), put(0, 0, 6), get(0, 0, 6), get(0, 0, 5), get(0, 0, 4)), 1)
	wantOrders(t, "last in, first out", api.Queue, 0, oneByOne(put(0, 0, 4), put(0, 0, 5), put(0, 0, 6), get(0, 0, 6), get(0, 0, 5), get(0, 0, 4)), 0)
}

func TestCheckRegisterOverlaps(t *testing.T) {
	check := func(name string, want int, l ...api.Act) {
		t.Helper()
		wantOrders(t, name, api.Register, 0, l, want)
	}
	check("a read before the write", 1, put(1, 4, 7), get(2, 3, 0))
	check("a read after the write", 1, put(1, 4, 7), get(2, 3, 7))
	check("a read of something else", 0, put(1, 4, 7), get(2, 3, 8))
	check("a write of the same value", 2, put(1, 4, 0), get(2, 3, 0))
	check("the old value, then the new one", 1, put(1, 9, 7), get(2, 3, 0), get(4, 5, 7))
	check("the new value, then the old one", 0, put(1, 9, 7), get(2, 3, 7), get(4, 5, 0))
	check("the old and the new value at once", 1, put(1, 9, 7), get(2, 4, 7), get(3, 5, 0))
	check("the new value twice", 2, put(1, 9, 7), get(2, 4, 7), get(3, 5, 7))
	check("two writes and the first value", 1, put(1, 4, 7), put(2, 3, 8), get(5, 6, 7))
	check("two writes and the other value", 1, put(1, 4, 7), put(2, 3, 8), get(5, 6, 8))
	check("two writes and what was there before", 0, put(1, 4, 7), put(2, 3, 8), get(5, 6, 0))
	check("two writes and both values", 0, put(1, 4, 7), put(2, 3, 8), get(5, 6, 7), get(7, 8, 8))
	check("two writes and both values at once", 0, put(1, 4, 7), put(2, 3, 8), get(5, 7, 7), get(6, 8, 8))
	check("two writes, and reads among them", 1, put(1, 6, 7), put(2, 6, 8), get(3, 4, 8), get(5, 6, 7))
	check("two threads that see the writes in different orders", 0, put(1, 8, 7), put(1, 8, 8), get(2, 3, 7), get(2, 3, 8), get(4, 5, 8), get(4, 5, 7))
	check("three writes in any order", 6, put(1, 3, 7), put(1, 3, 8), put(2, 4, 9))
	check("three writes with one at the end", 2, put(1, 3, 7), put(1, 3, 8), put(2, 4, 9), get(5, 6, 8))
}

func TestCheckCounterOverlaps(t *testing.T) {
	check := func(name string, want int, l ...api.Act) {
		t.Helper()
		wantOrders(t, name, api.Counter, 5, l, want)
	}
	check("one addition before the other", 1, add(1, 4, 7, 1), add(2, 3, 5, 2), get(5, 6, 8))
	check("the other one before it", 1, add(1, 4, 5, 1), add(2, 3, 6, 2), get(5, 6, 8))
	check("both first", 0, add(1, 4, 5, 1), add(2, 3, 5, 2))
	check("none first", 0, add(1, 4, 7, 1), add(2, 3, 6, 2))
	check("a lost addition", 0, add(1, 4, 5, 1), add(2, 3, 6, 2), get(5, 6, 6))
	check("an addition of 0 before another one", 1, add(1, 4, 5, 0), add(2, 3, 5, 1))
	check("an addition of 0 and a read", 2, add(1, 4, 5, 0), get(2, 3, 5))
	check("two additions of 0", 2, add(1, 4, 5, 0), add(2, 3, 5, 0), get(5, 6, 5))
	check("a read before", 1, add(1, 4, 5, 3), get(2, 3, 5))
	check("a read after", 1, add(1, 4, 5, 3), get(2, 3, 8))
	check("a read of a part", 0, add(1, 4, 5, 3), get(2, 3, 6))
	check("reads that go back", 0, add(1, 9, 5, 3), get(2, 3, 8), get(4, 5, 5))
	check("reads at once", 2, add(1, 9, 5, 3), get(2, 4, 8), get(3, 5, 8))
	check("back and forth", 2, add(1, 9, 5, 3), add(1, 9, 8, -3), get(2, 8, 5), get(3, 4, 8))
	check("three in one order", 1, add(1, 9, 9, 1), add(1, 9, 5, 2), add(1, 9, 7, 2), get(10, 11, 10))
}

func TestCheckQueueOverlaps(t *testing.T) {
	check := func(name string, want int, l ...api.Act) {
		t.Helper()
		wantOrders(t, name, api.Queue, 0, l, want)
	}
	check("insertions in order", 1, put(1, 4, 7), put(2, 3, 8), get(5, 6, 7), get(7, 8, 8))
	check("insertions in the other order", 1, put(1, 4, 7), put(2, 3, 8), get(5, 6, 8), get(7, 8, 7))
	check("insertions in any order", 2, put(1, 4, 7), put(2, 3, 8))
	check("insertions with removals at once", 2, put(1, 4, 7), put(2, 3, 8), get(5, 7, 8), get(6, 8, 7))
	check("removals at once", 1, put(1, 2, 7), put(3, 4, 8), get(5, 6, 8), get(5, 7, 7))
	check("removals in the wrong order", 0, put(1, 2, 7), put(3, 4, 8), get(5, 6, 8), get(7, 8, 7))
	check("the same element twice", 0, put(1, 4, 7), put(2, 3, 8), get(5, 6, 7), get(5, 6, 7))
	check("a removal after the insertion", 1, put(1, 4, 7), get(2, 3, 7))
	check("a removal of nothing before it", 1, put(1, 4, 7), get(2, 3, -1))
	check("both removals", 1, put(1, 9, 7), get(2, 3, -1), get(4, 5, 7))
	check("nothing after the removal", 1, put(1, 9, 7), get(2, 3, 7), get(4, 5, -1))
	check("nothing, before or after", 2, put(1, 9, 7), get(2, 5, 7), get(3, 4, -1))
	check("nothing three times", 6, get(1, 4, -1), get(2, 5, -1), get(3, 6, -1))
	check("nothing while there is an element", 0, put(1, 2, 7), put(3, 6, 8), get(4, 5, -1), get(7, 8, 7))
	check("nothing between the elements", 1, put(1, 2, 7), put(3, 8, 8), get(4, 7, -1), get(5, 6, 7), get(8, 9, 8))
	check("overtaking", 0, put(1, 2, 7), put(3, 4, 8), put(3, 4, 9), get(5, 6, 8), get(5, 6, 9), get(7, 8, 7))
	check("one of three first", 2, put(1, 3, 7), put(1, 3, 8), put(1, 3, 9), get(4, 5, 8))
}

func TestCheckStackOverlaps(t *testing.T) {
	check := func(name string, want int, l ...api.Act) {
		t.Helper()
		wantOrders(t, name, api.Stack, 0, l, want)
	}
	check("insertions in order", 1, put(1, 4, 7), put(2, 3, 8), get(5, 6, 8), get(7, 8, 7))
	check("insertions in the other order", 1, put(1, 4, 7), put(2, 3, 8), get(5, 6, 7), get(7, 8, 8))
	check("insertions in any order", 2, put(1, 4, 7), put(2, 3, 8))
	check("insertions with removals at once", 2, put(1, 4, 7), put(2, 3, 8), get(5, 7, 8), get(6, 8, 7))
	check("removals at once", 1, put(1, 2, 7), put(3, 4, 8), get(5, 6, 7), get(5, 7, 8))
	check("removals in the wrong order", 0, put(1, 2, 7), put(3, 4, 8), get(5, 6, 7), get(7, 8, 8))
	check("the same element twice", 0, put(1, 4, 7), put(2, 3, 8), get(5, 6, 7), get(5, 6, 7))
	check("a removal after the insertion", 1, put(1, 4, 7), get(2, 3, 7))
	check("a removal of nothing before it", 1, put(1, 4, 7), get(2, 3, -1))
	check("both removals", 1, put(1, 9, 7), get(2, 3, -1), get(4, 5, 7))
	check("nothing after the removal", 1, put(1, 9, 7), get(2, 3, 7), get(4, 5, -1))
	check("nothing, before or after", 2, put(1, 9, 7), get(2, 5, 7), get(3, 4, -1))
	check("nothing while there is an element", 0, put(1, 2, 7), put(3, 6, 8), get(4, 5, -1), get(7, 8, 7))
	check("a removal between the insertions", 1, put(1, 2, 7), put(3, 6, 8), get(4, 5, 7), get(7, 8, 8), get(9, 9, -1))
	check("the one below", 0, put(1, 2, 7), put(3, 4, 8), get(5, 6, 7))
	check("the one below, while the other is out", 1, put(1, 2, 7), put(3, 4, 8), get(5, 6, 7), get(5, 6, 8))
	check("one of three last", 2, put(1, 3, 7), put(1, 3, 8), put(1, 3, 9), get(4, 5, 8))
	check("two at once and one after them", 3, put(1, 3, 7), put(1, 3, 8), put(1, 3, 9), get(4, 5, 8), get(4, 9, 7), get(6, 9, 9))
}

// An operation comes before another one if its End is less than the other's Begin, and not if they are equal.
func TestCheckOrderOfTimes(t *testing.T) {
	for _, at := range []int{1, 2, 500, api.MaxCount - 1, api.MaxCount} {
		for _, end := range []int{at, api.MaxCount} {
			for before := range 2 {
				orders := 1 - before
				wantOrders(t, "a read of the old value", api.Register, 3, acts(put(0, at-before, 4), get(at, end, 3)), orders)
				wantOrders(t, "a read of the new value", api.Register, 3, acts(get(0, at-before, 4), put(at, end, 4)), orders)
				wantOrders(t, "an addition", api.Counter, 3, acts(add(0, at-before, 4, 1), add(at, end, 3, 1)), orders)
				for _, kind := range []int{api.Queue, api.Stack} {
					wantOrders(t, "nothing, after an insertion", kind, 3, acts(put(0, at-before, 4), get(at, end, -1)), orders)
					wantOrders(t, "a removal before the insertion", kind, 3, acts(get(at-1, at-before, 4), put(at, end, 4)), orders)
				}
				wantOrders(t, "two writes", api.Register, 3, acts(put(0, at-before, 4), put(at, end, 4)), 1+orders)
			}
		}
	}
}

func TestCheckEqualTimes(t *testing.T) {
	for _, at := range []int{0, 1, 77, api.MaxCount} {
		for _, value := range []int{3, 4} {
			wantOrders(t, "a write and a read", api.Register, 3, acts(put(at, at, 4), get(at, at, value)), 1)
		}
		wantOrders(t, "additions", api.Counter, 3, acts(add(at, at, 5, 1), add(at, at, 3, 2), get(at, at, 6)), 1)
		wantOrders(t, "a queue", api.Queue, 3, acts(put(at, at, 5), put(at, at, 6), get(at, at, 6), get(at, at, 5), get(at, at, -1)), 10)
		wantOrders(t, "a stack", api.Stack, 3, acts(put(at, at, 5), put(at, at, 6), get(at, at, 6), get(at, at, 5), get(at, at, -1)), 10)
		wantOrders(t, "none", api.Stack, 3, acts(put(at, at, 5), get(at, at, 5), get(at, at, 5)), 0)
	}
	wantOrders(t, "all of the time", api.Register, 3, acts(put(0, api.MaxCount, 4), get(0, 0, 4), get(api.MaxCount, api.MaxCount, 4)), 1)
	wantOrders(t, "all of the time", api.Register, 3, acts(put(0, api.MaxCount, 4), get(0, 0, 4), get(api.MaxCount, api.MaxCount, 3)), 0)
	wantOrders(t, "all of the time", api.Register, 3, acts(put(0, api.MaxCount, 4), get(0, 0, 3), get(api.MaxCount, api.MaxCount, 3)), 1)
}

// Of three operations the neighbors overlap, while the first and the last one are in order.
func TestCheckChains(t *testing.T) {
	wantOrders(t, "in order", api.Register, 0, acts(put(0, 2, 1), put(2, 4, 2), put(3, 5, 3), get(6, 7, 3)), 2)
	wantOrders(t, "the second last", api.Register, 0, acts(put(0, 2, 1), put(2, 4, 2), put(3, 5, 3), get(6, 7, 2)), 1)
	wantOrders(t, "the first last", api.Register, 0, acts(put(0, 2, 1), put(2, 4, 2), put(3, 5, 3), get(6, 7, 1)), 0)
	wantOrders(t, "the first behind the second", api.Queue, 0, acts(put(0, 2, 1), put(2, 4, 2), put(3, 5, 3), get(6, 7, 2), get(8, 9, 1)), 1)
	wantOrders(t, "the first behind the third", api.Queue, 0, acts(put(0, 2, 1), put(2, 4, 2), put(3, 5, 3), get(6, 7, 3), get(8, 9, 1)), 0)
}
