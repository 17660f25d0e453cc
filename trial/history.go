package trial

import (
	"strconv"
	"strings"

	"barograph/api"
)

// History: the events of a run up to now, for the notes of package explore. Two histories are equal if the same calls
// overlap and have come to the same: events that begin calls may be exchanged if no end is between them, and so may
// events that end calls if no beginning is between them. The zero value has no events.
type History struct {
	threads [api.MaxThreads]string
	time    int
	ended   bool // the last event was an end
}

// Between the numbers of a call, and behind the begin and the end of a call.
const (
	comma     = ","
	semicolon = ";"
)

// After returns the history with another event. Only its order among the events counts, not its step.
func (h History) After(e api.Event) History {
	if h.ended && !e.End {
		h.time++
	}
	h.ended = e.End
	text := strconv.Itoa(h.time)
	if e.End {
		text += comma + strconv.Itoa(int(e.Code))
	}
	for _, n := range e.Told {
		text += comma + strconv.Itoa(n)
	}
	h.threads[e.Thread] += text + semicolon
	return h
}

// Calls returns the calls of the threads of a machine, one thread behind the other. How many steps they take is not
// known.
func (h History) Calls(threads [][]api.Call) []Call {
	var calls []Call
	for i, text := range h.threads {
		for number := 0; text != ""; number++ {
			c := Call{Call: threads[i][number], Thread: i, Number: number, End: Open}
			begin, behind, _ := strings.Cut(text, semicolon)
			c.Begin = numbers(begin)[0]
			end, behind, ended := strings.Cut(behind, semicolon)
			if ended {
				l := numbers(end)
				c.End, c.Failed, c.Told = l[0], api.Errno(l[1]), l[2:]
			}
			calls = append(calls, c)
			text = behind
		}
	}
	return calls
}

func numbers(text string) []int {
	var l []int
	for part := range strings.SplitSeq(text, comma) {
		n, _ := strconv.Atoi(part)
		l = append(l, n)
	}
	return l
}
