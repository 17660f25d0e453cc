package ring

import (
	"fmt"
	"math"
	"math/rand"
	"slices"
	"testing"

	"barograph/api"
	"barograph/vm"
)

// elements: at the edges of what there may be, and equal ones behind each other and apart.
var elements = []int{0, 1, math.MaxInt, 5, 5, 0, 0, 2, 1 << 32, 8, math.MaxInt, math.MaxInt, math.MaxInt - 1, 1, 7, 3, 9, 0, 4, 6, 10, 64, 2, 1<<62 + 1}

// P13.1
func TestLimits(t *testing.T) {
	for places := 1; places <= api.MaxRing; places++ {
		if words, e := Words(places); e != api.OK || len(words) < 1 || len(words) > 64 {
			t.Errorf("Words(%d) = %v, %d", places, words, e)
		}
		for name, f := range map[string]func(int) ([]api.Op, api.Errno){"Put": Put, "Take": Take} {
			if code, e := f(places); e != api.OK || len(code) < 1 || !vm.May(code) {
				t.Errorf("%s(%d) = %v, %d", name, places, code, e)
			}
		}
	}
}

func TestWrongNumbersOfPlaces(t *testing.T) {
	for _, places := range []int{
		0, -1, -2, -api.MaxRing, api.MaxRing + 1, api.MaxRing + 2, 2 * api.MaxRing, 63, 64, 65, 200, 1 << 32, 1<<32 + 1,
		1<<63 - 8, math.MinInt, math.MinInt + 1, math.MinInt + 8, math.MaxInt - 1, math.MaxInt,
	} {
		if words, e := Words(places); e != api.ErrRange || len(words) != 0 {
			t.Errorf("Words(%d) = %v, %d", places, words, e)
		}
		if code, e := Put(places); e != api.ErrRange || len(code) != 0 {
			t.Errorf("Put(%d) = %v, %d", places, code, e)
		}
		if code, e := Take(places); e != api.ErrRange || len(code) != 0 {
			t.Errorf("Take(%d) = %v, %d", places, code, e)
		}
	}
}

// Results are new each time, and calls do not depend on earlier ones.
func TestResultsAreNew(t *testing.T) {
	for places := 1; places <= api.MaxRing; places++ {
		words, _ := Words(places)
		put, _ := Put(places)
		take, _ := Take(places)
		before := fmt.Sprint(words, put, take)
		for other := -1; other <= api.MaxRing+1; other++ {
			w, _ := Words(other)
			p, _ := Put(other)
			g, _ := Take(other)
			for i := range w[:cap(w)] {
				w[:cap(w)][i] = 9
			}
			clear(p[:cap(p)])
			clear(g[:cap(g)])
		}
		if now := fmt.Sprint(words, put, take); now != before {
			t.Errorf("%d places: the results became %s, want %s", places, now, before)
		}
		w, _ := Words(places)
		p, _ := Put(places)
		g, _ := Take(places)
		if now := fmt.Sprint(w, p, g); now != before {
			t.Errorf("%d places: the next results are %s, want %s", places, now, before)
		}
	}
}

// lone: a queue that is used by one call after the other, and what it has to contain.
type lone struct {
	t         *testing.T
	put, take []api.Op
	words     []int
	places    int
	inside    []int
}

func newLone(t *testing.T, places int) *lone {
	words, _ := Words(places)
	put, _ := Put(places)
	take, _ := Take(places)
	return &lone{t: t, put: put, take: take, words: words, places: places}
}

// wantCall makes a call that emits this number.
func (l *lone) wantCall(want int, code []api.Op, args ...int) {
	l.t.Helper()
	told, after, _, e := vm.Run(code, args, l.words, bound)
	if !slices.Equal(told, []int{want}) || len(after) != len(l.words) || e != api.OK {
		l.t.Fatalf("%d places, with %v inside: Run = %v, %v, %d, want %d", l.places, l.inside, told, after, e, want)
	}
	l.words = after
}

func (l *lone) wantPut(element int) {
	l.t.Helper()
	if len(l.inside) == l.places {
		l.wantCall(0, l.put, element)
		return
	}
	l.wantCall(1, l.put, element)
	l.inside = append(l.inside, element)
}

func (l *lone) wantTake() {
	l.t.Helper()
	if len(l.inside) == 0 {
		l.wantCall(-1, l.take)
		return
	}
	l.wantCall(l.inside[0], l.take)
	l.inside = l.inside[1:]
}

func TestEmptyAtFirst(t *testing.T) {
	for places := 1; places <= api.MaxRing; places++ {
		l := newLone(t, places)
		for range 50 {
			l.wantTake()
		}
	}
}

// So many Puts and so many Takes, in turn, again and again: the queue may be full or empty in between, or never.
func TestRounds(t *testing.T) {
	for places := 1; places <= api.MaxRing; places++ {
		for first := range places + 1 {
			for puts := 1; puts <= places+3; puts++ {
				for takes := 1; takes <= places+3; takes++ {
					l := newLone(t, places)
					for i := range first {
						l.wantPut(i)
					}
					for i := range 40 {
						for j := range puts {
							l.wantPut(elements[(i*puts+j)%len(elements)])
						}
						for range takes {
							l.wantTake()
						}
					}
				}
			}
		}
	}
}

// A queue does not come to an end.
func TestManyCalls(t *testing.T) {
	for places := 1; places <= api.MaxRing; places++ {
		r := rand.New(rand.NewSource(int64(places)))
		l := newLone(t, places)
		for range 20000 {
			if r.Intn(2) == 0 {
				l.wantPut(r.Intn(3))
			} else {
				l.wantTake()
			}
		}
	}
}

// An element may be any number that is not negative, wherever it is and whatever is around it.
func TestElements(t *testing.T) {
	for places := 1; places <= api.MaxRing; places++ {
		l := newLone(t, places)
		for _, one := range elements {
			for _, other := range elements {
				l.wantPut(one)
				l.wantPut(other)
				l.wantPut(one)
				l.wantTake()
				l.wantTake()
			}
		}
	}
}
