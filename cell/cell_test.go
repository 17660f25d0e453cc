package cell

import (
	"fmt"
	"math"
	"slices"
	"testing"

	"barograph/api"
	"barograph/vm"
)

// edges are numbers at which a comparison, a sum or a sign may go wrong.
var edges = []int{math.MinInt, math.MinInt + 1, -1 << 32, -2, -1, 0, 1, 2, 3, 4, 5, 6, 7, 8, 1 << 32, math.MaxInt - 1, math.MaxInt}

func TestLimits(t *testing.T) {
	for wide := 1; wide <= api.MaxWide; wide++ {
		words, e := Words(wide)
		if e != api.OK || len(words) < 1 || len(words) > 64 {
			t.Errorf("Words(%d) = %v, %d", wide, words, e)
		}
		for name, f := range map[string]func(int) ([]api.Op, api.Errno){"Put": Put, "Get": Get} {
			code, e := f(wide)
			if e != api.OK || len(code) < 1 || !vm.May(code) {
				t.Errorf("%s(%d) = %v, %d", name, wide, code, e)
			}
		}
	}
}

// The document can also be read so that it is the words that are 0.
func TestWordsAreZero(t *testing.T) {
	for wide := 1; wide <= api.MaxWide; wide++ {
		words, _ := Words(wide)
		if slices.ContainsFunc(words, func(n int) bool { return n != 0 }) {
			t.Errorf("Words(%d) = %v", wide, words)
		}
	}
}

func TestWrongWidths(t *testing.T) {
	for _, wide := range []int{0, -1, -2, -6, api.MaxWide + 1, api.MaxWide + 2, 64, 200, 1 << 32, 1<<32 + 1, math.MinInt, math.MinInt + 1, math.MaxInt} {
		if words, e := Words(wide); e != api.ErrRange || len(words) != 0 {
			t.Errorf("Words(%d) = %v, %d", wide, words, e)
		}
		if code, e := Put(wide); e != api.ErrRange || len(code) != 0 {
			t.Errorf("Put(%d) = %v, %d", wide, code, e)
		}
		if code, e := Get(wide); e != api.ErrRange || len(code) != 0 {
			t.Errorf("Get(%d) = %v, %d", wide, code, e)
		}
	}
}

// cell: a record that is used by one call after the other.
type cell struct {
	t     *testing.T
	wide  int
	words []int
}

func newCell(t *testing.T, wide int) *cell {
	words, _ := Words(wide)
	return &cell{t, wide, words}
}

func (c *cell) call(code []api.Op, args ...int) []int {
	c.t.Helper()
	told, after, _, e := vm.Run(code, args, c.words, bound)
	if e != api.OK || len(after) != len(c.words) {
		c.t.Fatalf("wide %d: Run = %v, %v, %d", c.wide, told, after, e)
	}
	c.words = after
	return told
}

func (c *cell) put(numbers ...int) {
	c.t.Helper()
	code, _ := Put(c.wide)
	if told := c.call(code, numbers...); len(told) > 0 {
		c.t.Errorf("wide %d: a Put tells %v", c.wide, told)
	}
}

func (c *cell) wantGet(want ...int) {
	c.t.Helper()
	code, _ := Get(c.wide)
	if told := c.call(code); !slices.Equal(told, want) {
		c.t.Errorf("wide %d: a Get tells %v, want %v", c.wide, told, want)
	}
}

func TestGetBeforePut(t *testing.T) {
	for wide := 1; wide <= api.MaxWide; wide++ {
		c := newCell(t, wide)
		for range 50 {
			c.wantGet(make([]int, wide)...)
		}
	}
}

func TestGetAfterPuts(t *testing.T) {
	for wide := 1; wide <= api.MaxWide; wide++ {
		for count := range 10 {
			c := newCell(t, wide)
			c.put(record(wide, 7)...)
			c.wantGet(record(wide, 7)...)
			for n := range 100 {
				for i := range count {
					c.put(record(wide, n+i)...)
				}
				c.put(record(wide, n)...)
				for range n % 4 {
					c.wantGet(record(wide, n)...)
				}
			}
		}
	}
}

func TestSpecialNumbers(t *testing.T) {
	for wide := 1; wide <= api.MaxWide; wide++ {
		c := newCell(t, wide)
		for _, a := range edges {
			equal := slices.Repeat([]int{a}, wide)
			c.put(equal...)
			c.wantGet(equal...)
			for _, b := range edges {
				for at := range wide {
					mixed := slices.Clone(equal)
					mixed[at] = b
					c.put(mixed...)
					c.wantGet(mixed...)
				}
			}
			c.put(make([]int, wide)...)
			c.wantGet(make([]int, wide)...)
		}
	}
}

// Numbers that could be taken for an address or for the word of a seat, and others, while two threads read.
func TestSpecialNumbersAtOnce(t *testing.T) {
	for wide := 1; wide <= api.MaxWide; wide++ {
		var records [][]int
		for i := range edges {
			records = append(records, slices.Repeat(edges[i:i+1], wide))
		}
		for from := range 60 {
			x := newTrial(t, wide, puts(records...), gets(api.MaxCalls), gets(api.MaxCalls))
			s := story{trial: x}
			s.steps(0, from)
			for range 300 {
				s.steps(0, 2)
				s.steps(1, 1)
				s.steps(2, 1)
			}
			s.rest(0, 1, 2)
			wantEnded(t, "edges", wantGood(t, fmt.Sprint("from ", from), x, s.schedule), len(records)+2*api.MaxCalls)
		}
	}
}

// Results are new each time, and calls do not depend on earlier ones.
func TestResultsAreNew(t *testing.T) {
	for wide := 1; wide <= api.MaxWide; wide++ {
		words, _ := Words(wide)
		put, _ := Put(wide)
		get, _ := Get(wide)
		before := fmt.Sprint(words, put, get)
		for other := -1; other <= api.MaxWide+1; other++ {
			w, _ := Words(other)
			p, _ := Put(other)
			g, _ := Get(other)
			for i := range w[:cap(w)] {
				w[:cap(w)][i] = 9
			}
			clear(p[:cap(p)])
			clear(g[:cap(g)])
		}
		if now := fmt.Sprint(words, put, get); now != before {
			t.Errorf("wide %d: the results became %s, want %s", wide, now, before)
		}
		w, _ := Words(wide)
		p, _ := Put(wide)
		g, _ := Get(wide)
		if now := fmt.Sprint(w, p, g); now != before {
			t.Errorf("wide %d: the next results are %s, want %s", wide, now, before)
		}
	}
}
