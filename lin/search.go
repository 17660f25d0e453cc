package lin

import (
	"slices"

	"barograph/api"
)

// set: of operations, with a bit for the position of each in the history.
type set uint

func (s set) has(i int) bool { return s>>i&1 == 1 }
func (s set) with(i int) set { return s | 1<<i }

// place: where states are looked for. States that are compared in vain cost time, hence the digest beside the set.
type place struct {
	done   set
	digest uint64
}

// search: for a sequence of the operations of a valid history.
type search struct {
	acts    []api.Act
	visited map[place][]state
}

// completes reports whether a sequence of the operations in done, after which the object has the state now, is the
// start of one that shows that the history is linearizable.
func (s *search) completes(done set, now state) bool {
	limit, left := s.limit(done)
	if !left {
		return true
	}
	if !s.visit(done, now) {
		return false
	}
	for i, a := range s.acts {
		if done.has(i) || a.Begin > limit {
			continue
		}
		next, value := now.next(a)
		if ended(a) && a.Value != value {
			continue
		}
		if s.completes(done.with(i), next) {
			return true
		}
	}
	return false
}

// limit returns the first End of the operations that have ended and are not in done, and whether there are any. An
// operation that begins after this End has to wait.
func (s *search) limit(done set) (first int, left bool) {
	for i, a := range s.acts {
		if ended(a) && !done.has(i) && (!left || a.End < first) {
			first, left = a.End, true
		}
	}
	return first, left
}

// visit reports whether the search is here for the first time. What has been visited did not lead to a sequence.
func (s *search) visit(done set, now state) bool {
	p := place{done, now.digest()}
	if slices.ContainsFunc(s.visited[p], now.same) {
		return false
	}
	s.visited[p] = append(s.visited[p], now)
	return true
}
