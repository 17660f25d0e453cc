package cell

import (
	"fmt"
	"math/rand"
	"slices"
	"testing"

	"barograph/api"
	"barograph/run"
)

// story: a schedule that grows. The thread 0 stores, and the others read.
type story struct {
	trial
	schedule []int
}

// readers: a machine with so many Puts, and readers with so many Gets each.
func readers(t *testing.T, wide, putCount int, getCounts ...int) *story {
	t.Helper()
	threads := [][]api.Call{written(wide, putCount)}
	for _, count := range getCounts {
		threads = append(threads, gets(count))
	}
	return &story{trial: newTrial(t, wide, threads...)}
}

func (s *story) steps(thread, count int) {
	s.schedule = append(s.schedule, slices.Repeat([]int{thread}, count)...)
}

// calls lets the thread end so many calls; the first one may be in progress.
func (s *story) calls(t *testing.T, thread, count int) {
	t.Helper()
	for range count {
		now := len(s.schedule)
		s.steps(thread, 2*bound)
		events, _, _ := run.Play(s.Machine, s.schedule)
		last := func(e api.Event) bool { return e.Step >= now && e.End }
		i := slices.IndexFunc(events, last)
		if i < 0 {
			t.Fatalf("wide %d: a call does not end within %d steps, under %v", s.wide, 2*bound, s.schedule)
		}
		s.schedule = s.schedule[:events[i].Step+1]
	}
}

// rest lets the threads end all their calls in this order.
func (s *story) rest(threads ...int) {
	for _, thread := range threads {
		s.steps(thread, len(s.Threads[thread])*bound)
	}
}

// told returns the number of the Put whose record each Get tells that has ended.
func told(acts []act) []int {
	var l []int
	for _, a := range acts {
		if !a.put && a.ended() {
			l = append(l, a.record[0]/100)
		}
	}
	return l
}

func wantEnded(t *testing.T, name string, acts []act, count int) {
	t.Helper()
	ended := 0
	for _, a := range acts {
		ended += truth(a.ended())
	}
	if ended != count {
		t.Fatalf("%s: %d calls have ended, want %d", name, ended, count)
	}
}

// lone returns how many steps a Put and a Get take that run alone.
func lone(t *testing.T, wide int) (put, get int) {
	t.Helper()
	s := readers(t, wide, 1, 1)
	s.rest(0, 1)
	acts := wantGood(t, "alone", s.trial, s.schedule)
	wantEnded(t, "alone", acts, 2)
	return acts[0].steps, acts[1].steps
}

// P10.2 and P10.3: each thread performs some steps, one thread behind the other, again and again.
func TestAlternatingSteps(t *testing.T) {
	lengths := []int{1, 2, 3, 5, 8, 13, 21, 34, 55}
	for wide := 1; wide <= api.MaxWide; wide++ {
		for count := 1; count <= 3; count++ {
			for _, long := range lengths {
				for _, short := range lengths {
					s := readers(t, wide, 4, slices.Repeat([]int{4}, count)...)
					for len(s.schedule) < 2000 {
						s.steps(0, long)
						for i := range count {
							s.steps(i+1, short)
						}
					}
					for i := range count + 1 {
						s.rest(i)
					}
					name := fmt.Sprintf("%d steps and %d of %d readers", long, short, count)
					wantEnded(t, name, wantGood(t, name, s.trial, s.schedule), 4+4*count)
				}
			}
		}
	}
}

// One thread after the other ends its calls, in all orders.
func TestLongRuns(t *testing.T) {
	for wide := 1; wide <= api.MaxWide; wide++ {
		for code := range 4 * 4 * 4 * 4 {
			order := []int{code % 4, code / 4 % 4, code / 16 % 4, code / 64}
			s := readers(t, wide, 2, 2, 2, 2)
			s.rest(order...)
			s.rest(0, 1, 2, 3)
			name := fmt.Sprint("the order ", order)
			acts := wantGood(t, name, s.trial, s.schedule)
			wantEnded(t, name, acts, 8)
			for i, n := range told(acts) {
				if n != 0 && n != 2 {
					t.Errorf("%s: Get %d tells the record of Put %d", name, i, n)
				}
			}
		}
	}
}

// A Get is suspended after each of its steps, while Puts run, and another Get afterwards.
func TestGetSuspendedDuringPuts(t *testing.T) {
	for wide := 1; wide <= api.MaxWide; wide++ {
		_, length := lone(t, wide)
		for before := range 2 {
			for _, during := range []int{1, 2, 3, 4, 5, 6, api.MaxCalls - 1} {
				for at := 1; at < length; at++ {
					s := readers(t, wide, api.MaxCalls, 2, 2)
					s.calls(t, 0, before)
					s.steps(1, at)
					s.calls(t, 0, during)
					s.calls(t, 2, 1)
					s.calls(t, 1, 2)
					s.calls(t, 2, 1)
					name := fmt.Sprintf("at %d, during %d Puts", at, during)
					acts := wantGood(t, name, s.trial, s.schedule)
					wantEnded(t, name, acts, before+during+4)
				}
			}
		}
	}
}

// Between any two steps of a Get there are so many Puts. The steps of the Get are all counted.
func TestGetBetweenPuts(t *testing.T) {
	for wide := 1; wide <= api.MaxWide; wide++ {
		for every := 1; every <= 5; every++ {
			for from := range 20 {
				s := readers(t, wide, api.MaxCalls, 2)
				s.steps(1, from)
				for left := api.MaxCalls; left > 0; left-- {
					s.calls(t, 0, 1)
					s.steps(1, every)
				}
				s.rest(1)
				name := fmt.Sprintf("%d steps and then always %d", from, every)
				acts := wantGood(t, name, s.trial, s.schedule)
				wantEnded(t, name, acts, api.MaxCalls+2)
				for _, a := range acts {
					if a.quiet != a.steps && !a.put {
						t.Errorf("%s: %d of %d steps are counted", name, a.quiet, a.steps)
					}
				}
			}
		}
	}
}

// The same with three readers at once, which are at different places.
func TestGetsBetweenPuts(t *testing.T) {
	for wide := 1; wide <= api.MaxWide; wide++ {
		for code := range 9 * 9 * 9 {
			s := readers(t, wide, api.MaxCalls, 3, 3, 3)
			s.steps(1, code%9)
			s.steps(2, code/9%9)
			s.steps(3, code/81)
			for i := range api.MaxCalls {
				s.steps(0, bound)
				s.steps(1+i%3, 1+code%4)
				s.steps(1+code%3, 1)
			}
			s.rest(0, 1, 2, 3)
			wantEnded(t, "three readers", wantGood(t, "three readers", s.trial, s.schedule), api.MaxCalls+9)
		}
	}
}

// Three Gets keep three different old records, each suspended after one of its steps, while all the Puts run.
func TestGetsOfDifferentAges(t *testing.T) {
	for wide := 1; wide <= api.MaxWide; wide++ {
		_, length := lone(t, wide)
		stride := 1
		if wide > 2 {
			stride = 11
		}
		different := 0
		for code := 0; code < length*length*length; code += stride {
			s := readers(t, wide, api.MaxCalls, 1, 1, 1)
			for i, at := range []int{code % length, code / length % length, code / length / length} {
				s.steps(i+1, at)
				s.steps(0, 60)
			}
			s.rest(0, 3, 1, 2)
			acts := wantGood(t, "ages", s.trial, s.schedule)
			wantEnded(t, "ages", acts, api.MaxCalls+3)
			l := told(acts)
			slices.Sort(l)
			different += truth(len(slices.Compact(l)) == 3 && l[2] < api.MaxCalls)
		}
		if different == 0 {
			t.Errorf("wide %d: no three Gets tell three old records", wide)
		}
	}
}

// A Put is suspended after each of its steps, while Gets run, and others have begun before.
func TestPutSuspendedDuringGets(t *testing.T) {
	for wide := 1; wide <= api.MaxWide; wide++ {
		length, getLength := lone(t, wide)
		for before := range 3 {
			for at := 1; at < length; at++ {
				for begun := range getLength {
					s := readers(t, wide, 4, 3, 3, 3)
					s.calls(t, 0, before)
					s.steps(2, begun)
					s.steps(0, at)
					s.steps(3, begun/2)
					s.steps(1, 3*bound)
					s.steps(2, bound)
					s.calls(t, 0, 1)
					s.rest(2, 3, 0)
					name := fmt.Sprintf("Put %d at %d, Get at %d", before+1, at, begun)
					wantGood(t, name, s.trial, s.schedule)
				}
			}
		}
	}
}

// The calls come one behind the other in all orders.
func TestCallsOneBehindTheOther(t *testing.T) {
	for wide := 1; wide <= api.MaxWide; wide++ {
		for code := range 1 << 9 {
			s := readers(t, wide, 9, 9)
			var want []int
			done := 0
			for i := range 9 {
				thread := code >> i & 1
				s.calls(t, thread, 1)
				if thread == 0 {
					done++
				} else {
					want = append(want, done)
				}
			}
			acts := wantGood(t, "in turn", s.trial, s.schedule)
			if got := told(acts); !slices.Equal(got, want) {
				t.Errorf("wide %d, order %b: told %v, want %v", wide, code, got, want)
			}
		}
	}
}

// After each place of a Put and of a Get, all schedules of some steps; then each of the two ends first.
func TestAllSchedulesFromAnywhere(t *testing.T) {
	const length = 5
	for _, wide := range []int{1, api.MaxWide} {
		putLength, getLength := lone(t, wide)
		for atPut := range putLength {
			for atGet := range getLength {
				for code := range 1 << length {
					s := readers(t, wide, 2, 2)
					s.steps(0, atPut)
					s.steps(1, atGet)
					for i := range length {
						s.steps(code>>i&1, 1)
					}
					s.rest(code&1, 1-code&1)
					wantGood(t, "all", s.trial, s.schedule)
				}
			}
		}
	}
}

// All schedules up to a length, of two threads and of four, from the beginning.
func TestAllSchedulesFromTheBeginning(t *testing.T) {
	for _, c := range []struct{ threads, length int }{{2, 13}, {3, 8}, {4, 6}} {
		total := 1
		for range c.length {
			total *= c.threads
		}
		for code := range total {
			s := readers(t, 1+code%2, 2, slices.Repeat([]int{2}, c.threads-1)...)
			for left, n := c.length, code; left > 0; left-- {
				s.steps(n%c.threads, 1)
				n /= c.threads
			}
			wantGood(t, "before the end", s.trial, s.schedule)
			for i := range c.threads {
				s.rest((i + code) % c.threads)
			}
			wantEnded(t, "all", wantGood(t, "all", s.trial, s.schedule), 2*c.threads)
		}
	}
}

// Random schedules: each thread performs steps in runs of a length of its own. The Puts may be those of any thread, and
// few of their records differ if the seed says so.
func TestRandomSchedules(t *testing.T) {
	for seed := range 6000 {
		r := rand.New(rand.NewSource(int64(seed)))
		wide := 1 + r.Intn(api.MaxWide)
		few := r.Intn(2) == 0
		most := []int{2, 4, api.MaxCalls}[r.Intn(3)]
		threads := [][]api.Call{written(wide, 1+r.Intn(most))}
		for i := range threads[0] {
			if few {
				threads[0][i].Args = record(wide, r.Intn(3))
			}
		}
		for range 1 + r.Intn(3) {
			threads = append(threads, gets(1+r.Intn(most)))
		}
		writer := r.Intn(len(threads))
		threads[0], threads[writer] = threads[writer], threads[0]
		var lengths []int
		for range threads {
			lengths = append(lengths, 1+r.Intn([]int{1, 3, 10, 100}[r.Intn(4)]))
		}
		var schedule []int
		for size := 100 + r.Intn(1500); len(schedule) < size; {
			thread := r.Intn(len(threads))
			schedule = append(schedule, slices.Repeat([]int{thread}, 1+r.Intn(lengths[thread]))...)
		}
		wantGood(t, fmt.Sprint("seed ", seed), newTrial(t, wide, threads...), schedule)
	}
}

// The thread that stores reads in addition, so that all threads may be within a Get.
func TestWriterThatReads(t *testing.T) {
	for seed := range 2000 {
		r := rand.New(rand.NewSource(int64(seed)))
		wide := 1 + r.Intn(api.MaxWide)
		var own []api.Call
		for n := range 10 {
			own = slices.Concat(own, puts(record(wide, n+1)), gets(r.Intn(2)))
		}
		s := story{trial: newTrial(t, wide, own, gets(10), gets(10), gets(10))}
		for len(s.schedule) < 1500 {
			s.steps(r.Intn(4), 1+r.Intn(1+seed%20))
		}
		s.rest(0, 1, 2, 3)
		wantEnded(t, "all", wantGood(t, fmt.Sprint("seed ", seed), s.trial, s.schedule), len(own)+30)
	}
}

// Then a Get may be at the last seat while Puts run. The other Gets end before the Puts.
func TestGetAtTheLastSeat(t *testing.T) {
	const wide = 2
	putLength, getLength := lone(t, wide)
	for at := range getLength + 20 {
		for during := range 3 {
			for atPut := range putLength {
				own := append(gets(1), written(wide, 4)...)
				s := story{trial: newTrial(t, wide, own, gets(1), gets(1), gets(2))}
				s.steps(0, getLength/2)
				s.steps(1, getLength)
				s.steps(2, getLength)
				s.steps(3, at)
				for _, thread := range []int{0, 1, 2} {
					s.calls(t, thread, 1)
				}
				s.calls(t, 0, during)
				s.steps(0, atPut)
				s.rest(3, 0)
				name := fmt.Sprintf("Get at %d, Put %d at %d", at, during+1, atPut)
				wantEnded(t, name, wantGood(t, name, s.trial, s.schedule), len(own)+4)
			}
		}
	}
}

// Short histories under random schedules, for package lin.
func TestRandomSchedulesOfFewCalls(t *testing.T) {
	for seed := range 6000 {
		r := rand.New(rand.NewSource(int64(seed)))
		wide := 1 + r.Intn(api.MaxWide)
		s := readers(t, wide, 1+r.Intn(3), 2, 2, 2)
		last := 1 + r.Intn(10)
		for len(s.schedule) < 400 {
			s.steps(r.Intn(4), 1+r.Intn(last))
		}
		acts := wantGood(t, fmt.Sprint("seed ", seed), s.trial, s.schedule)
		if len(acts) > api.MaxActs {
			t.Fatalf("seed %d: too many calls: %v", seed, acts)
		}
	}
}

// P10.3: no call that runs alone takes more steps than allowed, with any number of calls before it.
func TestLoneCalls(t *testing.T) {
	for wide := 1; wide <= api.MaxWide; wide++ {
		s := readers(t, wide, api.MaxCalls, api.MaxCalls)
		s.rest(1, 0)
		wantEnded(t, "first all Gets", wantGood(t, "first all Gets", s.trial, s.schedule), 2*api.MaxCalls)
		s = readers(t, wide, api.MaxCalls, api.MaxCalls)
		s.rest(0, 1)
		wantEnded(t, "first all Puts", wantGood(t, "first all Puts", s.trial, s.schedule), 2*api.MaxCalls)
	}
}
