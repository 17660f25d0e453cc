package lin

import (
	"fmt"
	"math"
	"slices"
	"testing"

	"barograph/api"
)

// Without the operation that has not ended the Values are wrong.
func TestCheckOpenOperationsThatAreNeeded(t *testing.T) {
	wantOrders(t, "a write", api.Register, 0, acts(put(1, -1, 7), get(2, 3, 7)), 1)
	wantOrders(t, "no write", api.Register, 0, acts(get(1, -1, 7), get(2, 3, 7)), 0)
	wantOrders(t, "one of two writes", api.Register, 0, acts(put(1, -1, 7), put(1, -1, 8), get(2, 3, 7), get(4, 5, 7)), 3)
	wantOrders(t, "both writes", api.Register, 0, acts(put(1, -1, 7), put(1, -1, 8), get(2, 3, 8), get(4, 5, 7)), 1)
	wantOrders(t, "a write twice", api.Register, 0, acts(put(1, -1, 7), put(1, -1, 8), get(2, 3, 8), get(4, 5, 7), get(6, 7, 8)), 0)
	wantOrders(t, "an addition", api.Counter, 5, acts(add(1, -1, 5, 2), get(2, 3, 7)), 1)
	wantOrders(t, "some of the additions", api.Counter, 5, acts(add(1, -1, 5, 2), add(1, -1, 5, 4), add(1, -1, 5, 8), get(2, 3, 15)), 4)
	wantOrders(t, "no such addition", api.Counter, 5, acts(add(1, -1, 5, 2), add(1, -1, 5, 4), add(1, -1, 5, 8), get(2, 3, 14)), 0)
	for _, kind := range []int{api.Queue, api.Stack} {
		wantOrders(t, "an insertion", kind, 0, acts(put(1, -1, 7), get(2, 3, 7)), 1)
		wantOrders(t, "another insertion", kind, 0, acts(put(1, -1, 7), get(2, 3, 8)), 0)
		wantOrders(t, "an insertion for two removals", kind, 0, acts(put(1, -1, 7), get(2, 3, 7), get(4, 5, 7)), 0)
		wantOrders(t, "a removal", kind, 0, acts(put(0, 1, 7), get(2, -1, 7), get(3, 4, -1)), 1)
		wantOrders(t, "no removal", kind, 0, acts(put(0, 1, 7), get(3, 4, -1)), 0)
		wantOrders(t, "two removals for one", kind, 0, acts(put(0, 1, 7), put(2, 3, 8), get(4, -1, 7), get(5, 6, -1)), 0)
		wantOrders(t, "two removals", kind, 0, acts(put(0, 1, 7), put(2, 3, 8), get(4, -1, 7), get(4, -1, 8), get(5, 6, -1)), 2)
		wantOrders(t, "an insertion and not a removal", kind, 0, acts(put(0, -1, 7), get(1, -1, 7), get(2, 3, -1), get(4, 5, 7)), 4)
	}
	wantOrders(t, "an insertion and a removal", api.Queue, 0, acts(put(0, 1, 8), put(2, -1, 7), get(2, -1, 0), get(3, 4, 7)), 2)
	wantOrders(t, "a removal of the first one", api.Queue, 0, acts(put(0, 1, 7), put(2, 3, 8), get(4, -1, 0), get(5, 6, 8)), 1)
	wantOrders(t, "a removal of the last one", api.Stack, 0, acts(put(0, 1, 7), put(2, 3, 8), get(4, -1, 0), get(5, 6, 7)), 1)
}

// The operation that has not ended has an effect after all the others, or none.
func TestCheckOpenOperationsThatMayBeLeftOut(t *testing.T) {
	wantOrders(t, "a write", api.Register, 0, acts(put(1, -1, 7), get(2, 3, 0)), 2)
	wantOrders(t, "a write of the same value", api.Register, 0, acts(put(1, -1, 0), get(2, 3, 0)), 3)
	wantOrders(t, "a write that a later one covers", api.Register, 0, acts(put(1, -1, 7), put(2, 3, 8), get(4, 5, 8)), 3)
	wantOrders(t, "a read", api.Register, 0, acts(get(1, -1, 5), put(2, 3, 8), get(4, 5, 8)), 4)
	wantOrders(t, "an addition", api.Counter, 5, acts(add(1, -1, 5, 2), get(2, 3, 5)), 2)
	wantOrders(t, "an addition of 0", api.Counter, 5, acts(add(1, -1, 5, 0), get(2, 3, 5)), 3)
	wantOrders(t, "a read", api.Counter, 5, acts(get(1, -1, 9), add(2, 3, 5, 1)), 3)
	for _, kind := range []int{api.Queue, api.Stack} {
		wantOrders(t, "an insertion", kind, 0, acts(put(1, -1, 7), get(2, 3, -1)), 2)
		wantOrders(t, "a removal", kind, 0, acts(get(1, -1, 7), put(2, 3, 7)), 3)
		wantOrders(t, "a removal before the insertion or after the other", kind, 0, acts(get(1, -1, 7), put(2, 3, 7), get(4, 5, 7)), 3)
		wantOrders(t, "both", kind, 0, acts(get(1, -1, 7), put(1, -1, 7)), 5)
	}
	wantOrders(t, "one behind the other", api.Queue, 0, acts(put(1, 2, 6), put(1, -1, 7), get(3, 4, 6)), 3)
	wantOrders(t, "one below the other", api.Stack, 0, acts(put(1, 2, 6), put(1, -1, 7), get(3, 4, 6)), 3)
}

// With an effect before the end of the others the Values would be wrong, also where all the others overlap.
func TestCheckOpenOperationsThatMustBeLeftOut(t *testing.T) {
	wantOrders(t, "a write", api.Register, 3, acts(get(5, 9, 3), get(5, 9, 3), put(0, -1, 7)), 4)
	wantOrders(t, "a write that begins too late", api.Register, 0, acts(put(4, -1, 7), get(2, 3, 7)), 0)
	wantOrders(t, "an addition", api.Counter, 3, acts(add(5, 9, 3, 1), get(5, 9, 4), add(0, -1, 3, 1)), 2)
	wantOrders(t, "an addition that begins too late", api.Counter, 3, acts(add(4, -1, 3, 4), get(2, 3, 7)), 0)
	for _, kind := range []int{api.Queue, api.Stack} {
		wantOrders(t, "an insertion", kind, 0, acts(put(5, 6, 4), get(7, 8, 4), get(9, 9, -1), put(5, -1, 3)), 2)
		wantOrders(t, "a removal", kind, 0, acts(put(2, 3, 4), put(4, 5, 4), get(4, -1, 4), get(6, 7, 4), get(8, 9, 4), get(10, 11, -1)), 3)
		wantOrders(t, "an insertion that begins too late", kind, 0, acts(put(4, -1, 7), get(2, 3, 7)), 0)
		wantOrders(t, "a removal that begins too late", kind, 0, acts(put(0, 1, 7), get(4, -1, 7), get(2, 3, -1)), 0)
	}
}

// What would be returned is not compared if the operation has not ended.
func TestCheckOpenValues(t *testing.T) {
	for _, value := range edges {
		wantOrders(t, "a read", api.Register, 3, acts(get(0, -1, value), put(1, 2, 7), get(3, 4, 7)), 4)
		wantOrders(t, "a read", api.Register, 3, acts(get(0, -1, value), put(1, 2, 7), get(3, 4, 3)), 0)
		wantOrders(t, "a read of a counter", api.Counter, 3, acts(get(0, -1, value), add(1, 2, 3, 4), get(3, 4, 7)), 4)
		wantOrders(t, "an addition", api.Counter, 3, acts(add(0, -1, value, 2), get(1, 2, 5)), 1)
		wantOrders(t, "an addition that is left out", api.Counter, 3, acts(add(0, -1, value, 2), get(1, 2, 3)), 2)
		wantOrders(t, "an addition of something else", api.Counter, 3, acts(add(0, -1, value, 2), get(1, 2, 4)), 0)
		wantOrders(t, "a write", api.Register, 3, acts(put(0, -1, value), get(1, 2, value), get(3, 4, value)), 1)
		wantOrders(t, "a write of something else", api.Register, 3, acts(put(0, -1, value), get(1, 2, value^5), get(3, 4, value)), 0)
		if value < -1 {
			continue
		}
		for _, kind := range []int{api.Queue, api.Stack} {
			wantOrders(t, "a removal", kind, 3, acts(get(0, -1, value), put(1, 2, 7), get(3, 4, -1)), 1)
			wantOrders(t, "a removal of nothing", kind, 3, acts(get(0, -1, value), get(3, 4, -1)), 3)
			wantOrders(t, "a removal that is left out", kind, 3, acts(get(0, -1, value), put(1, 2, 7), get(3, 4, 7)), 3)
			wantOrders(t, "another element", kind, 3, acts(get(0, -1, value), put(1, 2, 7), get(3, 4, 8)), 0)
			if value >= 0 {
				wantOrders(t, "an insertion", kind, 3, acts(put(0, -1, value), get(1, 2, value)), 1)
				wantOrders(t, "an insertion of something else", kind, 3, acts(put(0, -1, value), get(1, 2, value^5)), 0)
			}
		}
	}
}

// An operation that has not ended comes after those that ended before its Begin, and may take any time from there on.
func TestCheckOpenTimes(t *testing.T) {
	for _, at := range []int{1, 5, api.MaxCount} {
		wantOrders(t, "at the end of the read", api.Register, 0, acts(put(at, -1, 7), get(0, at, 7)), 1)
		wantOrders(t, "after the end of the read", api.Register, 0, acts(put(at, -1, 7), get(0, at-1, 7)), 0)
		wantOrders(t, "after another write", api.Register, 0, acts(put(at, -1, 7), put(0, at-1, 8), get(at, at, 8)), 2)
		wantOrders(t, "after another write", api.Register, 0, acts(put(at, -1, 7), put(0, at-1, 8), get(at, at, 7)), 1)
		wantOrders(t, "not before another insertion", api.Queue, 0, acts(put(at, -1, 7), put(0, at-1, 8), get(at, at, 7)), 0)
		wantOrders(t, "before another insertion", api.Queue, 0, acts(put(at, -1, 7), put(0, at, 8), get(at, at, 7)), 2)
	}
	wantOrders(t, "late", api.Register, 0, acts(put(0, -1, 7), get(10, 11, 0), get(20, 21, 0), get(api.MaxCount, api.MaxCount, 7)), 1)
	wantOrders(t, "early", api.Register, 0, acts(put(0, -1, 7), get(0, 0, 7), get(20, 21, 7), get(api.MaxCount, api.MaxCount, 7)), 1)
	wantOrders(t, "back", api.Register, 0, acts(put(0, -1, 7), get(10, 11, 7), get(20, 21, 0)), 0)
	wantOrders(t, "the later one first", api.Queue, 0, acts(put(0, -1, 7), put(9, -1, 8), get(20, 21, 8), get(22, 23, 7)), 2)
}

func TestCheckOpenOperationsAlone(t *testing.T) {
	for _, kind := range kinds {
		for _, a := range acts(put(0, -1, 7), get(3, -1, 7), get(api.MaxCount, -1, 0)) {
			wantOrders(t, "one", kind, 0, acts(a), 2)
			wantOrders(t, "three", kind, 0, acts(a, a, a), 16)
			wantCheck(t, "the most", kind, 0, slices.Repeat(acts(a), api.MaxActs), true)
		}
	}
}

func TestCheckNothingIsThere(t *testing.T) {
	for _, kind := range []int{api.Queue, api.Stack} {
		wantOrders(t, "nothing", kind, 0, acts(get(1, 2, -1)), 1)
		for _, value := range []int{0, 1, math.MaxInt} {
			wantOrders(t, "something", kind, 0, acts(get(1, 2, value)), 0)
			wantOrders(t, "something, then nothing", kind, 0, oneByOne(put(0, 0, value), get(0, 0, value), get(0, 0, -1)), 1)
			wantOrders(t, "something twice", kind, 0, oneByOne(put(0, 0, value), get(0, 0, value), get(0, 0, value)), 0)
			wantOrders(t, "empty twice", kind, 0, oneByOne(get(0, 0, -1), put(0, 0, value), get(0, 0, value), get(0, 0, -1)), 1)
		}
		wantCheck(t, "nothing, the most often", kind, 0, slices.Repeat(acts(get(1, 2, -1)), api.MaxActs), true)
		wantCheck(t, "nothing, one by one", kind, 0, oneByOne(slices.Repeat(acts(get(1, 2, -1)), api.MaxActs)...), true)
	}
}

func TestCheckEqualElements(t *testing.T) {
	for _, kind := range []int{api.Queue, api.Stack} {
		wantOrders(t, "twice", kind, 0, oneByOne(put(0, 0, 7), put(0, 0, 7), get(0, 0, 7), get(0, 0, 7), get(0, 0, -1)), 1)
		wantOrders(t, "once too often", kind, 0, oneByOne(put(0, 0, 7), put(0, 0, 7), get(0, 0, 7), get(0, 0, 7), get(0, 0, 7)), 0)
		wantOrders(t, "once too seldom", kind, 0, oneByOne(put(0, 0, 7), put(0, 0, 7), get(0, 0, 7), get(0, 0, -1)), 0)
		wantOrders(t, "around another one", kind, 0, oneByOne(put(0, 0, 7), put(0, 0, 8), put(0, 0, 7), get(0, 0, 7), get(0, 0, 8), get(0, 0, 7)), 1)
		wantOrders(t, "at once", kind, 0, acts(put(1, 4, 7), put(2, 4, 7), get(5, 6, 7), get(7, 8, 7)), 2)
		wantOrders(t, "at once with another one", kind, 0, acts(put(1, 4, 7), put(2, 4, 8), put(3, 4, 7), get(5, 6, 7), get(7, 8, 8), get(9, 9, 7)), 2)
	}
	wantOrders(t, "in a row", api.Queue, 0, oneByOne(put(0, 0, 7), put(0, 0, 7), put(0, 0, 8), get(0, 0, 7), get(0, 0, 7), get(0, 0, 8)), 1)
	wantOrders(t, "in a row", api.Stack, 0, oneByOne(put(0, 0, 7), put(0, 0, 7), put(0, 0, 8), get(0, 0, 7), get(0, 0, 7), get(0, 0, 8)), 0)
	wantOrders(t, "not in a row", api.Queue, 0, oneByOne(put(0, 0, 7), put(0, 0, 8), put(0, 0, 7), get(0, 0, 7), get(0, 0, 7), get(0, 0, 8)), 0)
}

func TestCheckCounterWrapsAround(t *testing.T) {
	check := func(name string, first, want int, l ...api.Act) {
		t.Helper()
		wantOrders(t, name, api.Counter, first, l, want)
	}
	check("above the greatest", math.MaxInt, 1, oneByOne(add(0, 0, math.MaxInt, 1), get(0, 0, math.MinInt), add(0, 0, math.MinInt, -1), get(0, 0, math.MaxInt))...)
	check("not held at the greatest", math.MaxInt, 0, oneByOne(add(0, 0, math.MaxInt, 1), get(0, 0, math.MaxInt))...)
	check("below the least", math.MinInt, 1, oneByOne(add(0, 0, math.MinInt, -1), get(0, 0, math.MaxInt), add(0, 0, math.MaxInt, 2), get(0, 0, math.MinInt+1))...)
	check("not held at the least", math.MinInt, 0, oneByOne(add(0, 0, math.MinInt, -1), get(0, 0, math.MinInt))...)
	check("the least twice", 5, 1, oneByOne(add(0, 0, 5, math.MinInt), add(0, 0, math.MinInt+5, math.MinInt), get(0, 0, 5))...)
	check("the greatest twice", 5, 1, oneByOne(add(0, 0, 5, math.MaxInt), add(0, 0, math.MinInt+4, math.MaxInt), get(0, 0, 3))...)
	check("at once", math.MaxInt-1, 1, add(1, 9, math.MaxInt-1, 3), add(1, 9, math.MinInt+1, -2), get(10, 11, math.MaxInt))
	check("not ended", math.MaxInt, 1, add(1, -1, 0, math.MaxInt), get(2, 3, -2))
}

func TestCheckFirst(t *testing.T) {
	for _, first := range edges {
		for _, value := range edges {
			orders := 0
			if value == first {
				orders = 1
			}
			wantOrders(t, "a read", api.Register, first, acts(get(1, 2, value)), orders)
			wantOrders(t, "a read at once with a write", api.Register, first, acts(get(1, 2, value), put(2, 3, first^1)), orders+map[bool]int{true: 1}[value == first^1])
			wantOrders(t, "a read after a write", api.Register, first, acts(put(0, 1, value), get(2, 3, value)), 1)
			wantOrders(t, "a read of a counter", api.Counter, first, acts(get(1, 2, value)), orders)
			wantOrders(t, "an addition", api.Counter, first, acts(add(1, 2, value, 9)), orders)
			wantOrders(t, "an addition and a read", api.Counter, first, acts(add(1, 2, first, value), get(3, 4, first+value)), 1)
		}
		for _, kind := range []int{api.Queue, api.Stack} {
			wantOrders(t, "nothing", kind, first, acts(get(1, 2, -1)), 1)
			wantOrders(t, "an element", kind, first, oneByOne(put(0, 0, 5), get(0, 0, 5), get(0, 0, -1)), 1)
			if first >= 0 {
				wantOrders(t, "a removal of first", kind, first, acts(get(1, 2, first)), 0)
				wantOrders(t, "an element and first", kind, first, oneByOne(put(0, 0, 5), get(0, 0, 5), get(0, 0, first)), 0)
			}
		}
	}
}

// together gives all operations the same times.
func together(list ...api.Act) []api.Act {
	for i := range list {
		list[i].Begin, list[i].End = 1, 20
	}
	return list
}

// thenOneByOne appends the operations with times after those of together.
func thenOneByOne(l []api.Act, list ...api.Act) []api.Act {
	for i, a := range list {
		a.Begin, a.End = 30+2*i, 31+2*i
		l = append(l, a)
	}
	return l
}

func puts(values ...int) []api.Act {
	var l []api.Act
	for _, v := range values {
		l = append(l, put(0, 0, v))
	}
	return l
}

func gets(values ...int) []api.Act {
	var l []api.Act
	for _, v := range values {
		l = append(l, get(0, 0, v))
	}
	return l
}

func TestCheckMostRegisterOperations(t *testing.T) {
	check := func(name string, want bool, l []api.Act) {
		t.Helper()
		wantCheck(t, name, api.Register, 0, l, want)
	}
	check("writes", true, together(puts(1, 2, 3, 4, 5, 6, 7, 8, 9)...))
	check("reads", true, together(gets(0, 0, 0, 0, 0, 0, 0, 0, 0)...))
	check("reads of something else", false, together(gets(0, 0, 0, 0, 1, 0, 0, 0, 0)...))
	check("a read of each", true, together(slices.Concat(puts(1, 2, 3, 4), gets(4, 3, 0, 2, 1))...))
	check("a read of something else at once", false, together(append(puts(1, 2, 3, 4, 5, 6, 7, 8), gets(9)...)...))
	for value := range 10 {
		check("one of them last", value >= 1 && value <= 8, thenOneByOne(together(puts(1, 2, 3, 4, 5, 6, 7, 8)...), gets(value)...))
	}
	reads := func(values ...int) []api.Act {
		l := together(puts(1, 2, 3, 4, 5)...)
		for i, v := range values {
			l = append(l, get(4*i+1, 4*i+2, v))
		}
		return l
	}
	check("reads meanwhile", true, reads(3, 1, 5, 2))
	check("the same read meanwhile", true, reads(3, 3, 5, 5))
	check("a value that comes back", false, reads(3, 1, 3, 2))
	check("the value from before", false, reads(3, 1, 0, 2))
}

func TestCheckMostAdditions(t *testing.T) {
	order := []int{4, 8, 0, 2, 6, 1, 7, 3, 5}
	var l []api.Act
	value := 100
	for _, i := range order {
		l = append(l, add(0, 0, value, 1<<i))
		value += 1 << i
	}
	wantCheck(t, "in one order", api.Counter, 100, together(l...), true)
	for i := range l {
		changed := slices.Clone(l)
		changed[i].Value++
		wantCheck(t, "in no order", api.Counter, 100, changed, false)
	}
	one := func(values ...int) []api.Act {
		var l []api.Act
		for _, v := range values {
			l = append(l, add(0, 0, v, 1))
		}
		return together(l...)
	}
	wantCheck(t, "each value once", api.Counter, 0, one(3, 1, 4, 0, 5, 2, 6, 8, 7), true)
	wantCheck(t, "a value twice", api.Counter, 0, one(3, 1, 4, 0, 5, 2, 6, 7, 7), false)
	wantCheck(t, "a value too far", api.Counter, 0, one(3, 1, 4, 0, 5, 2, 6, 9, 7), false)
	wantCheck(t, "the sum", api.Counter, 0, thenOneByOne(one(0, 1, 2, 3, 4, 5, 6, 7), get(0, 0, 8)), true)
	wantCheck(t, "not the sum", api.Counter, 0, thenOneByOne(one(0, 1, 2, 3, 4, 5, 6, 7), get(0, 0, 7)), false)
}

func TestCheckMostInsertionsAndRemovals(t *testing.T) {
	for _, kind := range []int{api.Queue, api.Stack} {
		check := func(name string, want bool, l []api.Act) {
			t.Helper()
			wantCheck(t, name, kind, 0, l, want)
		}
		check("insertions", true, together(puts(1, 2, 3, 4, 5, 6, 7, 8, 9)...))
		check("equal insertions", true, thenOneByOne(together(puts(1, 1, 1, 1, 1, 1, 1, 1)...), gets(1)...))
		check("nothing in spite of equal insertions", false, thenOneByOne(together(puts(1, 1, 1, 1, 1, 1, 1, 1)...), gets(-1)...))
		for _, value := range []int{1, 5, 8} {
			check("one of them", true, thenOneByOne(together(puts(1, 2, 3, 4, 5, 6, 7, 8)...), gets(value)...))
		}
		check("some of them", true, thenOneByOne(together(puts(1, 2, 3, 4, 5)...), gets(4, 1, 5, 2)...))
		check("one of them twice", false, thenOneByOne(together(puts(1, 2, 3, 4, 5)...), gets(4, 1, 4, 2)...))
		check("all of them", true, thenOneByOne(together(puts(1, 2, 3, 4)...), gets(3, 1, 2, 4, -1)...))
		check("nothing too early", false, thenOneByOne(together(puts(1, 2, 3, 4)...), gets(3, 1, 2, -1, 4)...))
		check("all at once", true, together(slices.Concat(puts(1, 2, 3, 4), gets(3, 1, -1, 4, 2))...))
		check("all at once and one of them twice", false, together(slices.Concat(puts(1, 2, 3, 4), gets(3, 1, -1, 4, 4))...))
		check("nothing at once", true, together(slices.Concat(puts(1, 2, 3, 4), gets(-1, -1, -1, -1, -1))...))
	}
}

// The search has to try all orders of eight operations.
func TestCheckMostOrders(t *testing.T) {
	high := puts(0, 1<<61, 2<<61, 3<<61, 1<<60, 3<<60, 5<<60, 7<<60)
	for _, kind := range []int{api.Queue, api.Stack} {
		for _, list := range [][]api.Act{puts(1, 2, 3, 4, 5, 6, 7, 8), high} {
			for _, ends := range []int{20, -1} {
				l := together(list...)
				for i := range l {
					l[i].End = ends
				}
				l = append(l, get(15, 40, 9))
				if ok, e := Check(kind, 0, l); ok || e != api.OK {
					t.Errorf("Check(%d, 0, %v) = %t, %d", kind, l, ok, e)
				}
			}
		}
	}
}

// The operations stay as they are, including the spare capacity of the list.
func TestArgumentsStay(t *testing.T) {
	for name, h := range sequential() {
		all := append(slices.Clone(h.acts), slices.Repeat(acts(get(-5, -6, -7)), 12)...)
		want := slices.Clone(all)
		for length := range len(all) + 1 {
			for _, kind := range []int{-1, 0, 1, 2, 3, 4, 5} {
				May(kind, all[:length])
				Check(kind, h.first, all[:length])
			}
		}
		if !slices.Equal(all, want) {
			t.Errorf("%s: the operations became %v, want %v", name, all, want)
		}
	}
}

// A result depends on the arguments of its call only.
func TestCallsAreIndependent(t *testing.T) {
	l := acts(put(1, 5, 7), get(2, 3, 7), get(6, 7, 7))
	wants := []bool{true, false, false, false}
	for range 3 {
		for i, kind := range kinds {
			if ok, e := Check(kind, 0, l); ok != wants[i] || e != api.OK {
				t.Errorf("kind %d: Check = %t, %d", kind, ok, e)
			}
			Check(kind, 7, l)
			Check(kind, 0, acts(put(1, 2, -9)))
			Check(kind+4, 0, l)
		}
	}
	for i, first := range []int{0, 7, 0, 8, 7} {
		ok, e := Check(api.Register, first, acts(get(0, 0, 7)))
		if ok != (first == 7) || e != api.OK {
			t.Errorf("%s: Check = %t, %d", fmt.Sprint("call ", i, " with ", first), ok, e)
		}
	}
}
