package trial

import (
	"fmt"
	"slices"
	"testing"

	"barograph/api"
)

func TestTouch(t *testing.T) {
	x := Trial{Machine: api.Machine{Words: []int{4, 5, 6, 7}, Codes: [][]api.Op{Touch(1)}}}
	for thread := range 3 {
		x.Threads = append(x.Threads, []api.Call{{Args: []int{thread, 10 * thread}}})
	}
	x.Threads = append(x.Threads, []api.Call{{Args: []int{2, 30}}})
	x.Turns(4, 0, 1, 2)
	x.Steps(3, 1)
	got, words, e := x.Calls()
	if told := [][]int{got[0].Told, got[1].Told, got[2].Told}; fmt.Sprint(told) != "[[0] [10] [20]]" || e != api.OK {
		t.Errorf("Calls = %v, %d", got, e)
	}
	if want := []int{4, 0, 10, 30}; !slices.Equal(words, want) || got[3].Ended() {
		t.Errorf("the words are %v, want %v", words, want)
	}
	// Now the last thread writes while the third one is between its two accesses.
	x.Schedule = []int{2, 2, 3, 2, 2}
	if got, _, _ := x.Calls(); !slices.Equal(got[0].Told, []int{30}) {
		t.Errorf("Calls = %v, want one that tells 30", got)
	}
}

func TestFail(t *testing.T) {
	for _, n := range []int{0, 1, 2, -5} {
		x := Trial{Machine: api.Machine{Words: []int{4, 5}, Codes: [][]api.Op{Fail()}, Threads: [][]api.Call{{{Args: []int{n}}}}}}
		x.Steps(0, 2)
		got, words, e := x.Calls()
		if e != api.OK || got[0].End != 1 || got[0].Failed != api.ErrRange || !slices.Equal(got[0].Told, []int{n}) {
			t.Errorf("Calls = %v, %d", got, e)
		}
		if !slices.Equal(words, x.Words) {
			t.Errorf("the words became %v", words)
		}
	}
}
