package trial

import "barograph/api"

// Touch returns a code for calls of other threads: it writes its second argument to the word that its first argument
// counts from the address on, and tells what is there two steps later.
func Touch(address int) []api.Op {
	return []api.Op{
		{Kind: api.Store, A: 1, B: 0, C: address},
		{Kind: api.Set, A: 2, B: 3},
		{Kind: api.Load, A: 2, B: 0, C: address},
		{Kind: api.Emit, A: 2},
	}
}

// Fail returns a code whose calls tell their argument and then end with ErrRange.
func Fail() []api.Op {
	return []api.Op{{Kind: api.Emit, A: 0}, {Kind: api.Store, A: 0, B: 1, C: -1}}
}
