package count

import (
	"fmt"
	"math"
	"slices"
	"testing"

	"barograph/api"
	"barograph/vm"
)

// edges are numbers at which a comparison, a sum or a sign may go wrong. Some sums of two of them wrap around.
var edges = []int{1, math.MaxInt, 0, -1, math.MinInt, 5, -5, 2, 1 << 32, -7, math.MaxInt, math.MinInt + 1, -1 << 32, 64, 3, -2}

// P12.1
func TestLimits(t *testing.T) {
	if words := Words(); len(words) < 1 || len(words) > 64 {
		t.Errorf("Words() = %v", words)
	}
	for name, code := range map[string][]api.Op{"Add": Add(), "Get": Get()} {
		if len(code) < 1 || !vm.May(code) {
			t.Errorf("%s() = %v", name, code)
		}
	}
}

// Results are new each time, and calls do not depend on earlier ones.
func TestResultsAreNew(t *testing.T) {
	words, plus, value := Words(), Add(), Get()
	before := fmt.Sprint(words, plus, value)
	for range 3 {
		w, a, g := Words(), Add(), Get()
		if now := fmt.Sprint(w, a, g); now != before {
			t.Errorf("the next results are %s, want %s", now, before)
		}
		for i := range w[:cap(w)] {
			w[:cap(w)][i] = 9
		}
		clear(a[:cap(a)])
		clear(g[:cap(g)])
		if now := fmt.Sprint(words, plus, value); now != before {
			t.Errorf("the results became %s, want %s", now, before)
		}
	}
}

// lone: a counter that is used by one call after the other.
type lone struct {
	t     *testing.T
	words []int
}

// wantCall makes a call that emits this number.
func (l *lone) wantCall(want int, code []api.Op, args ...int) {
	l.t.Helper()
	told, after, _, e := vm.Run(code, args, l.words, bound)
	if !slices.Equal(told, []int{want}) || len(after) != len(l.words) || e != api.OK {
		l.t.Fatalf("Run = %v, %v, %d, want %d", told, after, e, want)
	}
	l.words = after
}

func TestGetAtFirst(t *testing.T) {
	l := lone{t, Words()}
	for range 50 {
		l.wantCall(0, Get())
	}
}

func TestSums(t *testing.T) {
	for gets := range 3 {
		for _, first := range edges {
			for _, second := range edges {
				l := lone{t, Words()}
				sum := 0
				for _, n := range []int{first, second, first, -second, 0, math.MaxInt, second} {
					l.wantCall(sum, Add(), n)
					sum += n
					for range gets {
						l.wantCall(sum, Get())
					}
				}
				l.wantCall(sum, Get())
			}
		}
	}
}

// The sums wrap around.
func TestWraparound(t *testing.T) {
	l := lone{t, Words()}
	l.wantCall(0, Add(), math.MaxInt)
	l.wantCall(math.MaxInt, Add(), 1)
	l.wantCall(math.MinInt, Add(), math.MinInt)
	l.wantCall(0, Add(), math.MinInt)
	l.wantCall(math.MinInt, Add(), -1)
	l.wantCall(math.MaxInt, Add(), math.MaxInt)
	l.wantCall(-2, Get())
}
