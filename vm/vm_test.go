package vm

import (
	"fmt"
	"math"
	"math/big"
	"slices"
	"testing"

	"barograph/api"
)

// edges are numbers near which a comparison, a wraparound or a sign may go wrong.
var edges = []int{
	math.MinInt, math.MinInt + 1, math.MinInt / 2, -1 << 32, -200, -7, -2, -1,
	0, 1, 2, 7, 200, 1 << 32, math.MaxInt/2 + 1, math.MaxInt - 1, math.MaxInt,
}

// layouts writes down the comments of package api, a letter for each of A, B, C and D: a register, a target of a
// jump, any number, or no operand.
var layouts = []struct {
	kind   int
	name   string
	fields string
}{
	{api.Set, "Set", "rn--"},
	{api.Copy, "Copy", "rr--"},
	{api.Add, "Add", "rrr-"},
	{api.Sub, "Sub", "rrr-"},
	{api.Mul, "Mul", "rrr-"},
	{api.Div, "Div", "rrr-"},
	{api.Rem, "Rem", "rrr-"},
	{api.Same, "Same", "rrr-"},
	{api.Less, "Less", "rrr-"},
	{api.Jump, "Jump", "t---"},
	{api.When, "When", "rt--"},
	{api.Unless, "Unless", "rt--"},
	{api.Load, "Load", "rrn-"},
	{api.Store, "Store", "rrn-"},
	{api.Cas, "Cas", "rrnr"},
	{api.Emit, "Emit", "r---"},
	{api.Done, "Done", "----"},
}

// op takes the fields from A on; those that are left out are 0.
func op(kind int, fields ...int) api.Op {
	fields = append(slices.Clone(fields), 0, 0, 0, 0)
	return api.Op{Kind: kind, A: fields[0], B: fields[1], C: fields[2], D: fields[3]}
}

func code(ops ...api.Op) []api.Op { return ops }

func repeat(count int, o api.Op) []api.Op {
	return slices.Repeat([]api.Op{o}, count)
}

func brief(v any) string {
	return fmt.Sprintf("%.300s", fmt.Sprint(v))
}

func wantMay(t *testing.T, name string, c []api.Op, want bool) {
	t.Helper()
	if got := May(c); got != want {
		t.Errorf("%s: May = %t, want %t: %s", name, got, want, brief(c))
	}
}

// result: what a call of Run came to.
type result struct {
	told, after []int
	steps       int
	e           api.Errno
}

func run(c []api.Op, args, words []int, limit int) result {
	told, after, steps, e := Run(c, args, words, limit)
	return result{told, after, steps, e}
}

func (r result) equal(other result) bool {
	return slices.Equal(r.told, other.told) && slices.Equal(r.after, other.after) && r.steps == other.steps && r.e == other.e
}

func wantRun(t *testing.T, name string, c []api.Op, args, words []int, limit int, want result) {
	t.Helper()
	if got := run(c, args, words, limit); !got.equal(want) {
		t.Errorf("%s: Run = %s, want %s", name, brief(got), brief(want))
	}
}

// wantTold runs a code that ends and leaves the words as they are.
func wantTold(t *testing.T, name string, c []api.Op, args, words []int, steps int, told ...int) {
	t.Helper()
	wantRun(t, name, c, args, words, api.MaxSteps, result{told, words, steps, api.OK})
}

// P7.1: the document's example.
func TestMayEmptyCode(t *testing.T) {
	wantMay(t, "nil", nil, true)
	wantMay(t, "empty", []api.Op{}, true)
}

func TestMayOrdinaryCodes(t *testing.T) {
	wantMay(t, "the document's example of Run", code(op(api.Set, 0, 7), op(api.Emit, 0)), true)
	wantMay(t, "a loop", code(op(api.Set, 1, 1), op(api.Unless, 0, 4), op(api.Sub, 0, 0, 1), op(api.Jump, 1)), true)
	wantMay(t, "never reached and wrong", code(op(api.Done), op(api.Set, -1, 7)), false)
	wantMay(t, "all kinds", code(
		op(api.Set, 23, math.MinInt), op(api.Copy, 22, 21), op(api.Add, 20, 19, 18), op(api.Sub, 17, 16, 15),
		op(api.Mul, 14, 13, 12), op(api.Div, 11, 10, 9), op(api.Rem, 8, 7, 6), op(api.Same, 5, 4, 3), op(api.Less, 2, 1, 0),
		op(api.Jump, 17), op(api.When, 23, 0), op(api.Unless, 0, 16), op(api.Load, 1, 23, -5), op(api.Store, 23, 1, 300),
		op(api.Cas, 1, 2, math.MaxInt, 23), op(api.Emit, 23), op(api.Done)), true)
}

func TestMayLength(t *testing.T) {
	for _, o := range []api.Op{op(api.Done), op(api.Set, 1, 2), op(api.Emit, 3)} {
		for length := range api.MaxCode + 1 {
			wantMay(t, fmt.Sprint(length, " instructions"), repeat(length, o), true)
		}
		for _, length := range []int{api.MaxCode + 1, api.MaxCode + 2, 2 * api.MaxCode, 1000, 100000} {
			wantMay(t, fmt.Sprint(length, " instructions"), repeat(length, o), false)
		}
	}
}

func TestMayKinds(t *testing.T) {
	for kind := -300; kind <= 300; kind++ {
		wantMay(t, fmt.Sprint("the kind ", kind), code(op(kind)), kind >= 1 && kind <= 17)
	}
	for _, kind := range []int{math.MinInt, math.MinInt + 1, -1 << 32, 1 << 32, 1<<32 + 1, math.MaxInt} {
		wantMay(t, fmt.Sprint("the kind ", kind), code(op(kind)), false)
	}
}

// fits is the document's sentence about one field.
func fits(letter byte, n, length int) bool {
	switch letter {
	case 'r':
		return n >= 0 && n <= api.MaxRegs-1
	case 't':
		return n >= 0 && n <= length
	case 'n':
		return true
	}
	return n == 0
}

// Each field of each kind, in codes of several lengths and at several positions, beside instructions that are valid.
func TestMayFields(t *testing.T) {
	for _, length := range []int{1, 2, 5, api.MaxRegs - 1, api.MaxRegs, api.MaxRegs + 1, api.MaxCode} {
		values := append([]int{3, 22, 23, 24, 25, 26, 199, 201, length - 1, length, length + 1, -length}, edges...)
		for _, at := range []int{0, length / 2, length - 1} {
			c := repeat(length, op(api.Done))
			for _, l := range layouts {
				for field := range 4 {
					for _, n := range values {
						fields := make([]int, 4)
						fields[field] = n
						c[at] = op(l.kind, fields...)
						name := fmt.Sprintf("%s at %d of %d, field %c = %d", l.name, at, length, 'A'+field, n)
						wantMay(t, name, c, fits(l.fields[field], n, length))
					}
				}
			}
		}
	}
}

// Two fields that are wrong do not make up for each other, and a wrong one is found beside operands that are not 0.
func TestMaySeveralFields(t *testing.T) {
	for _, l := range layouts {
		values := []int{-1, 0, 1, 4, 5, 23, 24}
		for i := range 7 * 7 * 7 * 7 {
			fields := []int{values[i%7], values[i/7%7], values[i/49%7], values[i/343]}
			want := true
			for field, n := range fields {
				want = want && fits(l.fields[field], n, 4)
			}
			c := code(op(api.Done), op(l.kind, fields...), op(api.Done), op(api.Done))
			wantMay(t, fmt.Sprint(l.name, " ", fields), c, want)
		}
	}
}

// The number of instructions counts, not MaxCode or the spare capacity of the list.
func TestMayTargetsOfPrefixes(t *testing.T) {
	for _, length := range []int{1, 2, 24, 100, api.MaxCode} {
		for _, o := range []api.Op{op(api.Jump, length), op(api.When, 0, length), op(api.Unless, 0, length)} {
			c := append(repeat(length-1, op(api.Done)), o)
			wantMay(t, fmt.Sprint("to the end of ", length), c, true)
			c[0] = o
			for part := 1; part < length; part++ {
				wantMay(t, fmt.Sprint("to ", length, ", of ", part), c[:part], false)
			}
		}
	}
}

// P7.2: the document's example.
func TestRunExample(t *testing.T) {
	wantRun(t, "the document's example", code(op(api.Set, 0, 7), op(api.Emit, 0)), nil, nil, 10, result{[]int{7}, nil, 2, api.OK})
}

func TestRunEmptyCode(t *testing.T) {
	for _, limit := range []int{0, 1, 2, 100, api.MaxSteps - 1, api.MaxSteps} {
		wantRun(t, "nothing at all", nil, nil, nil, limit, result{})
		wantRun(t, "empty lists", []api.Op{}, []int{}, []int{}, limit, result{})
		wantRun(t, "words", nil, []int{1, 2}, []int{3, 4}, limit, result{after: []int{3, 4}})
	}
}

// tellAll emits every register.
func tellAll() []api.Op {
	var c []api.Op
	for r := range api.MaxRegs {
		c = append(c, op(api.Emit, r))
	}
	return c
}

func TestRunRegistersAtFirst(t *testing.T) {
	for count := range api.MaxArgs + 1 {
		args := slices.Clone(edges[:count])
		want := append(slices.Clone(args), make([]int, api.MaxRegs-count)...)
		wantTold(t, fmt.Sprint(count, " arguments"), tellAll(), args, []int{5, 6}, api.MaxRegs, want...)
	}
	args := []int{11, 12, 13, 14, 15, 16, 17, 18}
	wantTold(t, "their order", tellAll(), args, nil, api.MaxRegs, append(slices.Clone(args), make([]int, 16)...)...)
}

// The words count one by one, up to MaxWords of them.
func TestRunWords(t *testing.T) {
	for _, count := range []int{0, 1, 2, 199, api.MaxWords} {
		words := make([]int, count)
		for i := range words {
			words[i] = 1000 - i
		}
		wantRun(t, fmt.Sprint(count, " words stay"), code(op(api.Done)), nil, words, 9, result{nil, words, 1, api.OK})
		for _, at := range []int{0, 1, count / 2, count - 2, count - 1} {
			if at < 0 || at >= count {
				continue
			}
			name := fmt.Sprintf("word %d of %d", at, count)
			wantTold(t, name, code(op(api.Load, 3, 0), op(api.Emit, 3)), []int{at}, words, 2, 1000-at)
			after := slices.Clone(words)
			after[at] = -9
			wantRun(t, name, code(op(api.Store, 1, 2, at)), []int{at + 1, -9}, words, 9, result{nil, after, 1, api.OK})
		}
	}
}

// Every register is a place of its own.
func TestRunEveryRegister(t *testing.T) {
	for r := range api.MaxRegs {
		want := make([]int, api.MaxRegs)
		want[r] = 100 + r
		wantTold(t, fmt.Sprint("Set ", r), append(code(op(api.Set, r, 100+r)), tellAll()...), nil, nil, 25, want...)
		from := (r + 5) % api.MaxRegs
		want[from] = 100 + r
		c := append(code(op(api.Set, r, 100+r), op(api.Copy, from, r)), tellAll()...)
		wantTold(t, fmt.Sprintf("Copy %d to %d", r, from), c, nil, nil, 26, want...)
	}
	var sets, copies []api.Op
	var want []int
	for r := range api.MaxRegs {
		sets = append(sets, op(api.Set, r, r*r-50))
		copies = append(copies, op(api.Copy, r, (r+1)%api.MaxRegs))
		want = append(want, (r+1)*(r+1)-50)
	}
	wantTold(t, "all of them", slices.Concat(sets, tellAll()), nil, nil, 48, append([]int{-50}, want[:23]...)...)
	want[23] = want[0] // the first copy has replaced the number of register 0
	wantTold(t, "each from the next", slices.Concat(sets, copies, tellAll()), nil, nil, 72, want...)
}

func TestRunSet(t *testing.T) {
	for _, n := range edges {
		wantTold(t, fmt.Sprint("Set ", n), code(op(api.Set, 9, n), op(api.Emit, 9)), nil, nil, 2, n)
	}
}

// wrapped keeps the last 64 bits of n, with their sign.
func wrapped(n *big.Int) int {
	low := new(big.Int).And(n, new(big.Int).SetUint64(math.MaxUint64))
	return int(low.Uint64())
}

// calculated computes with numbers of any length, as a second way to the same result.
func calculated(kind, b, c int) int {
	x, y, z := big.NewInt(int64(b)), big.NewInt(int64(c)), new(big.Int)
	switch kind {
	case api.Add:
		return wrapped(z.Add(x, y))
	case api.Sub:
		return wrapped(z.Sub(x, y))
	case api.Mul:
		return wrapped(z.Mul(x, y))
	case api.Div:
		if c == 0 {
			return 0
		}
		return wrapped(z.Quo(x, y))
	case api.Rem:
		if c == 0 {
			return 0
		}
		return wrapped(z.Rem(x, y))
	case api.Same:
		if x.Cmp(y) == 0 {
			return 1
		}
	case api.Less:
		if x.Cmp(y) < 0 {
			return 1
		}
	}
	return 0
}

var arithmetic = []int{api.Add, api.Sub, api.Mul, api.Div, api.Rem, api.Same, api.Less}

// Every operation on every pair of edges, into a register of its own and into those of its operands.
func TestRunArithmetic(t *testing.T) {
	for _, kind := range arithmetic {
		for _, b := range edges {
			for _, c := range edges {
				name := fmt.Sprintf("%s of %d and %d", layouts[kind-1].name, b, c)
				want := calculated(kind, b, c)
				args := []int{5, b, c}
				wantTold(t, name, code(op(kind, 0, 1, 2), op(api.Emit, 0), op(api.Emit, 1), op(api.Emit, 2)), args, nil, 4, want, b, c)
				wantTold(t, name+", into the first", code(op(kind, 1, 1, 2), op(api.Emit, 1), op(api.Emit, 2)), args, nil, 3, want, c)
				wantTold(t, name+", into the second", code(op(kind, 2, 1, 2), op(api.Emit, 1), op(api.Emit, 2)), args, nil, 3, b, want)
			}
			name := fmt.Sprintf("%s of %d and itself", layouts[kind-1].name, b)
			wantTold(t, name, code(op(kind, 3, 3, 3), op(api.Emit, 3)), []int{0, 0, 0, b}, nil, 2, calculated(kind, b, b))
		}
	}
}

// Results written out by hand.
func TestRunArithmeticByHand(t *testing.T) {
	for _, c := range []struct {
		kind, b, c, want int
	}{
		{api.Add, 2, 3, 5},
		{api.Add, math.MaxInt, 1, math.MinInt},
		{api.Add, math.MinInt, -1, math.MaxInt},
		{api.Sub, 2, 3, -1},
		{api.Sub, math.MinInt, 1, math.MaxInt},
		{api.Sub, 0, math.MinInt, math.MinInt},
		{api.Mul, -4, 3, -12},
		{api.Mul, math.MaxInt, 2, -2},
		{api.Mul, math.MinInt, -1, math.MinInt},
		{api.Mul, 1 << 32, 1 << 32, 0},
		{api.Mul, 1<<32 + 1, 1<<32 + 1, 1<<33 + 1},
		{api.Div, 7, 2, 3},
		{api.Div, -7, 2, -3},
		{api.Div, 7, -2, -3},
		{api.Div, -7, -2, 3},
		{api.Div, 7, 0, 0},
		{api.Div, math.MinInt, 0, 0},
		{api.Div, math.MinInt, -1, math.MinInt},
		{api.Rem, 7, 2, 1},
		{api.Rem, -7, 2, -1},
		{api.Rem, 7, -2, 1},
		{api.Rem, -7, -2, -1},
		{api.Rem, 7, 0, 0},
		{api.Rem, math.MinInt, 0, 0},
		{api.Rem, math.MinInt, -1, 0},
		{api.Same, 4, 4, 1},
		{api.Same, 4, 5, 0},
		{api.Same, 5, 4, 0},
		{api.Less, 4, 5, 1},
		{api.Less, 5, 4, 0},
		{api.Less, 4, 4, 0},
		{api.Less, math.MinInt, math.MaxInt, 1},
		{api.Less, math.MaxInt, math.MinInt, 0},
	} {
		name := fmt.Sprintf("%s of %d and %d", layouts[c.kind-1].name, c.b, c.c)
		wantTold(t, name, code(op(c.kind, 2, 0, 1), op(api.Emit, 2)), []int{c.b, c.c, 77}, nil, 2, c.want)
	}
}

// A jump goes to every instruction of a code: the arguments that are emitted tell where it has gone.
func TestRunJumps(t *testing.T) {
	args := []int{10, 11, 12, 13, 14, 15, 16, 17}
	for target := 1; target <= 9; target++ {
		c := append(code(op(api.Jump, target)), tellAll()[:8]...)
		wantTold(t, fmt.Sprint("to ", target), c, args, nil, 10-target, args[target-1:]...)
	}
	wantTold(t, "to the end", code(op(api.Jump, 2), op(api.Emit, 0)), nil, nil, 1)
	wantTold(t, "alone to the end", code(op(api.Jump, 1)), nil, nil, 1)
	wantTold(t, "the last one to the end", code(op(api.Emit, 0), op(api.Jump, 2)), []int{3}, nil, 2, 3)
	wantTold(t, "to the next one", code(op(api.Jump, 1), op(api.Emit, 0)), []int{3}, nil, 2, 3)
	wantTold(t, "backwards", code(op(api.Jump, 3), op(api.Emit, 0), op(api.Done), op(api.Jump, 1)), []int{3}, nil, 4, 3)
	wantRun(t, "to itself", code(op(api.Jump, 0)), nil, []int{1}, 50, result{nil, []int{1}, 50, api.ErrOver})
	wantRun(t, "to the start", code(op(api.Emit, 0), op(api.Jump, 0)), []int{4}, nil, 5, result{[]int{4, 4, 4}, nil, 5, api.ErrOver})
}

func TestRunConditions(t *testing.T) {
	for _, n := range edges {
		for _, kind := range []int{api.When, api.Unless} {
			taken := (kind == api.When) == (n != 0)
			name := fmt.Sprintf("%s %d", layouts[kind-1].name, n)
			for target := 2; target <= 4; target++ {
				told := []int{5, 6}
				if taken {
					told = told[target-2:]
				}
				c := code(op(api.Set, 23, n), op(kind, 23, target), op(api.Emit, 0), op(api.Emit, 1))
				wantTold(t, fmt.Sprint(name, " to ", target), c, []int{5, 6}, nil, 2+len(told), told...)
			}
			want := result{nil, nil, 1, api.OK}
			if taken {
				want = result{nil, nil, 30, api.ErrOver}
			}
			wantRun(t, name+" to itself", code(op(kind, 0, 0)), []int{n, 1 - n}, nil, 30, want)
			want = result{[]int{n}, nil, 2, api.OK}
			if taken {
				want = result{[]int{n, n, n, n}, nil, 7, api.ErrOver}
			}
			wantRun(t, name+" to the start", code(op(api.Emit, 0), op(kind, 0, 0)), []int{n}, nil, 7, want)
		}
	}
}

func TestRunDone(t *testing.T) {
	wantTold(t, "alone", code(op(api.Done)), nil, nil, 1)
	wantTold(t, "ahead of others", code(op(api.Emit, 0), op(api.Done), op(api.Emit, 0), op(api.Store, 0, 0)), []int{6}, nil, 2, 6)
	wantTold(t, "at the end", code(op(api.Emit, 0), op(api.Done)), []int{6}, nil, 2, 6)
	wantTold(t, "reached by a jump", code(op(api.Jump, 2), op(api.Emit, 0), op(api.Done), op(api.Emit, 0)), []int{6}, nil, 2)
	wantTold(t, "jumped over", code(op(api.Jump, 2), op(api.Done), op(api.Emit, 0)), []int{6}, nil, 2, 6)
}

func TestRunLoops(t *testing.T) {
	factorial := code(op(api.Set, 1, 1), op(api.Copy, 2, 1), op(api.Unless, 0, 6), op(api.Mul, 1, 1, 0), op(api.Sub, 0, 0, 2), op(api.Jump, 2), op(api.Emit, 1))
	product := 1
	for n := range 70 {
		if n > 0 {
			product *= n
		}
		wantTold(t, fmt.Sprint("factorial of ", n), factorial, []int{n}, nil, 4*n+4, product)
	}
	// The greatest common divisor: R[0] and R[1] become R[1] and the remainder.
	divisor := code(op(api.Unless, 1, 5), op(api.Rem, 2, 0, 1), op(api.Copy, 0, 1), op(api.Copy, 1, 2), op(api.Jump, 0), op(api.Emit, 0))
	wantTold(t, "divisor", divisor, []int{1071, 462}, nil, 17, 21)
	wantTold(t, "divisor of itself", divisor, []int{9, 9}, nil, 7, 9)
	wantTold(t, "divisor with 0", divisor, []int{9, 0}, nil, 2, 9)
	// The words are reversed by loads and stores from both ends.
	reverse := code(op(api.Set, 2, 1), op(api.Sub, 1, 1, 2), op(api.Less, 3, 0, 1), op(api.Unless, 3, 11), op(api.Load, 4, 0), op(api.Load, 5, 1),
		op(api.Store, 4, 1), op(api.Store, 5, 0), op(api.Add, 0, 0, 2), op(api.Sub, 1, 1, 2), op(api.Jump, 2))
	for count := range api.MaxWords + 1 {
		words := make([]int, count)
		for i := range words {
			words[i] = i*i - 7
		}
		after := slices.Clone(words)
		slices.Reverse(after)
		wantRun(t, fmt.Sprint("reverse ", count), reverse, []int{0, count}, words, api.MaxSteps, result{nil, after, 4 + count/2*9, api.OK})
	}
}

// Load and Store with the address in a register, in the instruction, and divided among both.
func TestRunLoadAndStore(t *testing.T) {
	words := []int{10, 20, 30, 40}
	for at := range words {
		for _, offset := range []int{0, 1, -1, at, -100, 100, math.MaxInt, math.MinInt} {
			name := fmt.Sprintf("word %d as %d + %d", at, at-offset, offset)
			args := []int{0, 0, at - offset, 77}
			wantTold(t, name, code(op(api.Load, 0, 2, offset), op(api.Emit, 0), op(api.Emit, 2)), args, words, 3, words[at], at-offset)
			wantTold(t, name+", into its own register", code(op(api.Load, 2, 2, offset), op(api.Emit, 2)), args, words, 2, words[at])
			after := slices.Clone(words)
			after[at] = 77
			wantRun(t, name, code(op(api.Store, 3, 2, offset), op(api.Emit, 3)), args, words, 9, result{[]int{77}, after, 2, api.OK})
			after[at] = at - offset
			wantRun(t, name+", its own register", code(op(api.Store, 2, 2, offset)), args, words, 9, result{nil, after, 1, api.OK})
		}
	}
	wantRun(t, "a store is loaded", code(op(api.Store, 0, 5, 1), op(api.Load, 1, 5, 1), op(api.Emit, 1)), []int{8, 9}, words, 9,
		result{[]int{8}, []int{10, 8, 30, 40}, 3, api.OK})
	for _, n := range edges {
		wantRun(t, fmt.Sprint("stores ", n), code(op(api.Store, 0, 5)), []int{n}, []int{3}, 9, result{nil, []int{n}, 1, api.OK})
		wantTold(t, fmt.Sprint("loads ", n), code(op(api.Load, 0, 5), op(api.Emit, 0)), nil, []int{n}, 2, n)
	}
}

func TestRunCas(t *testing.T) {
	tell := code(op(api.Emit, 0), op(api.Emit, 1), op(api.Emit, 2))
	for _, c := range []struct {
		name  string
		op    api.Op
		args  []int
		words []int
		told  []int
		after []int
	}{
		{"the expected number", op(api.Cas, 0, 1, 0, 2), []int{7, 1, 20}, []int{10, 20, 30}, []int{1, 1, 20}, []int{10, 7, 30}},
		{"another number", op(api.Cas, 0, 1, 0, 2), []int{7, 1, 21}, []int{10, 20, 30}, []int{0, 1, 21}, []int{10, 20, 30}},
		{"the number of another word", op(api.Cas, 0, 1, 0, 2), []int{7, 1, 30}, []int{10, 20, 30}, []int{0, 1, 30}, []int{10, 20, 30}},
		{"the new number is there", op(api.Cas, 0, 1, 0, 2), []int{20, 1, 21}, []int{10, 20, 30}, []int{0, 1, 21}, []int{10, 20, 30}},
		{"with an offset", op(api.Cas, 0, 1, 1, 2), []int{7, 1, 30}, []int{10, 20, 30}, []int{1, 1, 30}, []int{10, 20, 7}},
		{"with an offset below 0", op(api.Cas, 0, 1, -1, 2), []int{7, 1, 10}, []int{10, 20, 30}, []int{1, 1, 10}, []int{7, 20, 30}},
		{"0 becomes 0", op(api.Cas, 0, 1, 0, 2), []int{0, 0, 0}, []int{0}, []int{1, 0, 0}, []int{0}},
		{"the same register is expected and new", op(api.Cas, 0, 1, 0, 0), []int{7, 0, 3}, []int{7}, []int{1, 0, 3}, []int{7}},
		{"the same register, another number", op(api.Cas, 0, 1, 0, 0), []int{1, 0, 3}, []int{0}, []int{0, 0, 3}, []int{0}},
		{"the same register, 1 is there", op(api.Cas, 0, 1, 0, 0), []int{7, 0, 3}, []int{1}, []int{0, 0, 3}, []int{1}},
		{"the address is the new number", op(api.Cas, 1, 1, 0, 2), []int{7, 2, 30}, []int{10, 20, 30}, []int{7, 1, 30}, []int{10, 20, 2}},
		{"the address is the new number, another one", op(api.Cas, 1, 1, 0, 2), []int{7, 2, 3}, []int{10, 20, 30}, []int{7, 0, 3}, []int{10, 20, 30}},
		{"the address is expected", op(api.Cas, 0, 1, 0, 1), []int{7, 2, 3}, []int{10, 20, 2}, []int{1, 2, 3}, []int{10, 20, 7}},
		{"the address is all of them", op(api.Cas, 1, 1, 0, 1), []int{7, 2, 3}, []int{10, 20, 2}, []int{7, 1, 3}, []int{10, 20, 2}},
	} {
		wantRun(t, c.name, append(code(c.op), tell...), c.args, c.words, 9, result{c.told, c.after, 4, api.OK})
	}
	for _, there := range edges {
		for _, expected := range edges {
			want := result{[]int{0, expected}, []int{there}, 3, api.OK}
			if there == expected {
				want = result{[]int{1, expected}, []int{55}, 3, api.OK}
			}
			name := fmt.Sprintf("%d is there, %d is expected", there, expected)
			wantRun(t, name, code(op(api.Cas, 0, 1, 0, 2), op(api.Emit, 0), op(api.Emit, 2)), []int{55, 0, expected}, []int{there}, 9, want)
		}
	}
}

// accesses of the word at R[0] + offset.
func accesses(offset int) []api.Op {
	return code(op(api.Load, 1, 0, offset), op(api.Store, 1, 0, offset), op(api.Cas, 1, 0, offset, 2))
}

// The call ends at the access, which counts: what was emitted and stored ahead of it stays, and nothing comes after.
func TestRunNoSuchWord(t *testing.T) {
	for _, count := range []int{0, 1, 2, 5, 199, api.MaxWords} {
		words := make([]int, count)
		for _, address := range slices.Concat(edges, []int{-3, count - 1, count, count + 1, 199, 201, 300}) {
			if address >= 0 && address < count {
				continue
			}
			for _, offset := range []int{0, 1, -1, address, math.MaxInt, math.MinInt} {
				for _, o := range accesses(offset) {
					name := fmt.Sprintf("%s %d + %d of %d words", layouts[o.Kind-1].name, address-offset, offset, count)
					args := []int{address - offset}
					c := code(op(api.Emit, 0), o, op(api.Emit, 0), op(api.Store, 0, 3))
					wantRun(t, name, c, args, words, 100, result{args, words, 2, api.ErrRange})
					wantRun(t, name+", alone", code(o), args, words, 1, result{nil, words, 1, api.ErrRange})
				}
			}
		}
	}
	c := code(op(api.Store, 1, 3), op(api.Emit, 1), op(api.Cas, 1, 3, 1, 4), op(api.Emit, 1), op(api.Load, 1, 3, 2), op(api.Store, 2, 3))
	wantRun(t, "what was ahead of it stays", c, []int{0, 7, 8}, []int{5, 0}, 100, result{[]int{7, 1}, []int{7, 7}, 5, api.ErrRange})
}

// An address that wraps around is one like the others, below 0 or not.
func TestRunWrappedAddress(t *testing.T) {
	for _, o := range accesses(math.MaxInt) {
		name := layouts[o.Kind-1].name
		wantRun(t, name+" of a negative sum", code(o), []int{math.MaxInt}, []int{4, 4}, 9, result{nil, []int{4, 4}, 1, api.ErrRange})
		wantRun(t, name+" of a sum of 0", code(op(api.Add, 0, 0, 3), o), []int{math.MinInt, 6, 4, 1}, []int{4, 4}, 9,
			result{nil, []int{map[int]int{api.Load: 4, api.Store: 6, api.Cas: 6}[o.Kind], 4}, 2, api.OK})
	}
	wantTold(t, "both smallest", code(op(api.Load, 1, 0, math.MinInt), op(api.Emit, 1)), []int{math.MinInt}, []int{8, 9}, 2, 8)
	wantTold(t, "the smallest and the next", code(op(api.Load, 1, 0, math.MinInt), op(api.Emit, 1)), []int{math.MinInt + 1}, []int{8, 9}, 2, 9)
	wantRun(t, "the smallest and the second next", code(op(api.Load, 1, 0, math.MinInt)), []int{math.MinInt + 2}, []int{8, 9}, 9,
		result{nil, []int{8, 9}, 1, api.ErrRange})
}

// An access that fails leaves the registers as they are. Run does not return them, so the thread itself is looked at.
func TestFailedAccessHasNoEffect(t *testing.T) {
	for _, o := range accesses(0) {
		thread, _ := Begin(code(o), []int{3, 5, 6})
		registers, words := thread.registers, []int{5, 6, 5}
		e := thread.Step(words)
		if e != api.ErrRange || thread.registers != registers || len(thread.told) != 0 || !slices.Equal(words, []int{5, 6, 5}) {
			t.Errorf("%s: %v, registers %v, told %v, words %v", layouts[o.Kind-1].name, e, thread.registers, thread.told, words)
		}
	}
}

func TestRunEmit(t *testing.T) {
	wantTold(t, "in order", code(op(api.Emit, 1), op(api.Emit, 0), op(api.Emit, 1), op(api.Emit, 2)), []int{5, 6, 7}, nil, 4, 6, 5, 6, 7)
	wantTold(t, "what was there at that time", code(op(api.Emit, 0), op(api.Set, 0, 3), op(api.Emit, 0)), []int{5}, nil, 3, 5, 3)
	for _, n := range edges {
		wantTold(t, fmt.Sprint(n), code(op(api.Emit, 7)), []int{0, 0, 0, 0, 0, 0, 0, n}, nil, 1, n)
	}
}

// counting emits 1, 2 and so on and does not end by itself. The number n is emitted by the instruction that counts as 3 * n.
func counting() []api.Op {
	return code(op(api.Set, 1, 1), op(api.Add, 0, 0, 1), op(api.Emit, 0), op(api.Jump, 1))
}

func upTo(n int) []int {
	var l []int
	for i := range n {
		l = append(l, i+1)
	}
	return l
}

func TestRunTooManyNumbers(t *testing.T) {
	all := repeat(api.MaxCode, op(api.Emit, 0))
	wantTold(t, "MaxCode numbers", all, []int{5}, []int{6}, api.MaxCode, slices.Repeat([]int{5}, api.MaxCode)...)

	full := upTo(api.MaxCode)
	for _, limit := range []int{602, 603, 604, api.MaxSteps} {
		want := result{full, []int{6}, 603, api.ErrFull}
		if limit < want.steps {
			want.steps, want.e = limit, api.ErrOver
		}
		wantRun(t, fmt.Sprint("endless, limit ", limit), counting(), nil, []int{6}, limit, want)
	}

	// A loop emits count numbers, then the words are changed, and one more number may follow.
	loop := code(op(api.Set, 1, 1), op(api.Emit, 0), op(api.Sub, 0, 0, 1), op(api.When, 0, 1), op(api.Store, 1, 2))
	for _, count := range []int{199, 200, 201, 202} {
		numbers := upTo(count)
		slices.Reverse(numbers)
		want := result{numbers, []int{1}, 3*count + 2, api.OK}
		if count > api.MaxCode {
			want = result{numbers[:api.MaxCode], []int{6}, 3*api.MaxCode + 2, api.ErrFull}
		}
		wantRun(t, fmt.Sprint("a loop of ", count), loop, []int{count}, []int{6}, api.MaxSteps, want)
		if count == api.MaxCode {
			want.steps, want.e = want.steps+1, api.ErrFull
			wantRun(t, "the last instruction is one too many", append(loop, op(api.Emit, 1)), []int{count}, []int{6}, api.MaxSteps, want)
			wantRun(t, "nothing comes after it", append(loop, op(api.Emit, 1), op(api.Store, 0, 2)), []int{count}, []int{6}, api.MaxSteps, want)
		}
	}
}

// A call of each number of steps, with each limit around it.
func TestRunLimit(t *testing.T) {
	for _, c := range []struct {
		name string
		code []api.Op
	}{
		{"ends behind the last", repeat(7, op(api.Emit, 0))},
		{"ends with Done", append(repeat(6, op(api.Emit, 0)), op(api.Done), op(api.Emit, 0))},
		{"ends with a jump", append(repeat(6, op(api.Emit, 0)), op(api.Jump, 8), op(api.Emit, 0))},
		{"ends with a condition", append(repeat(6, op(api.Emit, 0)), op(api.When, 0, 8), op(api.Emit, 0))},
		{"ends with a condition that does not hold", append(repeat(6, op(api.Emit, 0)), op(api.Unless, 0, 0))},
		{"ends with an error", append(repeat(6, op(api.Emit, 0)), op(api.Load, 0, 0, -1))},
	} {
		whole := run(c.code, []int{1}, []int{2}, 100)
		if whole.steps != 7 {
			t.Errorf("%s: %d steps", c.name, whole.steps)
		}
		for limit := range 12 {
			want := whole
			if limit < 7 {
				want = result{slices.Repeat([]int{1}, limit), []int{2}, limit, api.ErrOver}
			}
			wantRun(t, fmt.Sprint(c.name, ", limit ", limit), c.code, []int{1}, []int{2}, limit, want)
		}
	}
}

func TestRunLimitOfNothing(t *testing.T) {
	for _, l := range layouts {
		wantRun(t, l.name, code(op(l.kind)), []int{1}, []int{2, 3}, 0, result{nil, []int{2, 3}, 0, api.ErrOver})
	}
}

func TestRunMaxSteps(t *testing.T) {
	// 2 steps, and 2 more for each number of the argument.
	c := code(op(api.Set, 1, 1), op(api.Copy, 2, 1), op(api.Sub, 0, 0, 1), op(api.When, 0, 2))
	count := (api.MaxSteps - 2) / 2
	wantRun(t, "exactly MaxSteps", c, []int{count}, nil, api.MaxSteps, result{nil, nil, api.MaxSteps, api.OK})
	wantRun(t, "a limit below", c, []int{count}, nil, api.MaxSteps-1, result{nil, nil, api.MaxSteps - 1, api.ErrOver})
	wantRun(t, "once more", c, []int{count + 1}, nil, api.MaxSteps, result{nil, nil, api.MaxSteps, api.ErrOver})
	for _, limit := range []int{1, 2, 1000, api.MaxSteps} {
		wantRun(t, "endless", code(op(api.Jump, 0)), nil, nil, limit, result{nil, nil, limit, api.ErrOver})
	}
	// What was stored and emitted up to the limit is returned.
	store := code(op(api.Set, 1, 1), op(api.Add, 0, 0, 1), op(api.Store, 0, 2, 1), op(api.Jump, 1))
	wantRun(t, "stores up to the limit", store, nil, []int{8, 8, 8}, api.MaxSteps, result{nil, []int{8, 2000, 8}, api.MaxSteps, api.ErrOver})
	wantRun(t, "numbers up to the limit", counting(), nil, []int{8}, 300, result{upTo(100), []int{8}, 300, api.ErrOver})
	wantRun(t, "numbers ahead of the limit", counting(), nil, []int{8}, 299, result{upTo(99), []int{8}, 299, api.ErrOver})
}

// Errors ahead of the execution, alone and together: the first one of the document's order is returned.
func TestRunErrorsInOrder(t *testing.T) {
	longest := append(repeat(api.MaxCode-1, op(api.Set, 0, 1)), op(api.Emit, 0))
	codes := []struct {
		name  string
		code  []api.Op
		valid bool
	}{
		{"empty code", nil, true},
		{"code", code(op(api.Emit, 0), op(api.Store, 0, 0, -5)), true},
		{"code that fails", code(op(api.Load, 0, 0, -5)), true},
		{"longest code", longest, true},
		{"too long code", append(repeat(1, op(api.Done)), longest...), false},
		{"no kind", code(op(api.Done), op(0)), false},
		{"kind below", code(op(-1)), false},
		{"kind above", code(op(api.Done + 1)), false},
		{"register", code(op(api.Emit, api.MaxRegs)), false},
		{"register below", code(op(api.Emit, -1)), false},
		{"target", code(op(api.Jump, 2)), false},
		{"target below", code(op(api.Jump, -1)), false},
		{"not an operand", code(op(api.Done, 0, 0, 0, 1)), false},
	}
	for _, c := range codes {
		for _, args := range []int{0, 1, api.MaxArgs, api.MaxArgs + 1, api.MaxRegs, api.MaxRegs + 1, 1000} {
			for _, words := range []int{0, 1, api.MaxWords, api.MaxWords + 1, 1000} {
				for _, limit := range []int{math.MinInt, -2, -1, 0, 1, api.MaxSteps, api.MaxSteps + 1, api.MaxSteps + 2, math.MaxInt} {
					name := fmt.Sprintf("%s, %d arguments, %d words, limit %d", c.name, args, words, limit)
					got := run(c.code, make([]int, args), make([]int, words), limit)
					want := api.OK
					if !c.valid {
						want = api.ErrForm
					} else if args > api.MaxArgs || words > api.MaxWords {
						want = api.ErrSize
					} else if limit < 0 || limit > api.MaxSteps {
						want = api.ErrRange
					}
					if want != api.OK && !got.equal(result{e: want}) {
						t.Errorf("%s: Run = %s, want the error %d alone", name, brief(got), want)
					}
					if want == api.OK && len(got.after) != words {
						t.Errorf("%s: Run = %s, want %d words", name, brief(got), words)
					}
				}
			}
		}
	}
}

// machine follows the comments of package api with a function for each kind, as a second way to the result of Run.
type machine struct {
	r    map[int]int
	m    map[int]int
	told []int
	at   int
	e    api.Errno
}

// word tells whether the word exists, and notes the error if it does not.
func (m *machine) word(o api.Op) (int, bool) {
	at := calculated(api.Add, m.r[o.B], o.C)
	if _, there := m.m[at]; there {
		return at, true
	}
	m.e = api.ErrRange
	return 0, false
}

func (m *machine) effects(end int) map[int]func(o api.Op) {
	effects := map[int]func(o api.Op){
		api.Set:    func(o api.Op) { m.r[o.A] = o.B },
		api.Copy:   func(o api.Op) { m.r[o.A] = m.r[o.B] },
		api.Jump:   func(o api.Op) { m.at = o.A },
		api.When:   func(o api.Op) { m.at = map[bool]int{true: o.B, false: m.at}[m.r[o.A] != 0] },
		api.Unless: func(o api.Op) { m.at = map[bool]int{true: o.B, false: m.at}[m.r[o.A] == 0] },
		api.Load: func(o api.Op) {
			if at, there := m.word(o); there {
				m.r[o.A] = m.m[at]
			}
		},
		api.Store: func(o api.Op) {
			if at, there := m.word(o); there {
				m.m[at] = m.r[o.A]
			}
		},
		api.Cas: func(o api.Op) {
			at, there := m.word(o)
			if there && m.m[at] == m.r[o.D] {
				m.m[at], m.r[o.A] = m.r[o.A], 1
			} else if there {
				m.r[o.A] = 0
			}
		},
		api.Emit: func(o api.Op) {
			if len(m.told) == api.MaxCode {
				m.e = api.ErrFull
				return
			}
			m.told = append(m.told, m.r[o.A])
		},
		api.Done: func(o api.Op) { m.at = end },
	}
	for _, kind := range arithmetic {
		effects[kind] = func(o api.Op) { m.r[o.A] = calculated(kind, m.r[o.B], m.r[o.C]) }
	}
	return effects
}

func interpreted(c []api.Op, args, words []int, limit int) result {
	m := &machine{r: map[int]int{}, m: map[int]int{}}
	for i, n := range args {
		m.r[i] = n
	}
	for i, n := range words {
		m.m[i] = n
	}
	effects := m.effects(len(c))
	steps := 0
	for m.at < len(c) && m.e == api.OK {
		if steps == limit {
			m.e = api.ErrOver
			break
		}
		o := c[m.at]
		m.at++
		effects[o.Kind](o)
		steps++
	}
	var after []int
	for i := range words {
		after = append(after, m.m[i])
	}
	return result{m.told, after, steps, m.e}
}

// source follows a fixed rule, so that the codes vary and the test stays repeatable.
type source uint64

func (s *source) below(n int) int {
	*s = *s*6364136223846793005 + 1442695040888963407
	return int(uint64(*s)>>33) % n
}

// mixedCode uses few registers and small addresses, so that the instructions have to do with each other.
func mixedCode(s *source, words int) []api.Op {
	length := 1 + s.below(40)
	registers := 1 + s.below(api.MaxRegs)
	var c []api.Op
	for range length {
		l := layouts[s.below(len(layouts))]
		if l.kind == api.Done && s.below(4) > 0 {
			l = layouts[api.Emit-1]
		}
		fields := make([]int, 4)
		for i, letter := range []byte(l.fields) {
			switch letter {
			case 'r':
				fields[i] = s.below(registers)
			case 't':
				fields[i] = s.below(length + 1)
			case 'n':
				fields[i] = s.below(words+2) - s.below(2)
				if s.below(12) == 0 {
					fields[i] = edges[s.below(len(edges))]
				}
			}
		}
		c = append(c, op(l.kind, fields...))
	}
	return c
}

func TestRunMixedCodes(t *testing.T) {
	seen := map[api.Errno]int{}
	for seed := range 60000 {
		s := source(seed)
		words := make([]int, s.below(6))
		args := make([]int, s.below(api.MaxArgs+1))
		for _, l := range [][]int{words, args} {
			for i := range l {
				l[i] = s.below(4)
				if s.below(6) == 0 {
					l[i] = edges[s.below(len(edges))]
				}
			}
		}
		c := mixedCode(&s, len(words))
		limit := s.below(1000)
		want := interpreted(c, args, words, limit)
		seen[want.e]++
		wantMay(t, fmt.Sprint("seed ", seed), c, true)
		wantRun(t, fmt.Sprint("seed ", seed), c, args, words, limit, want)
	}
	for _, e := range []api.Errno{api.OK, api.ErrRange, api.ErrFull, api.ErrOver} {
		if seen[e] < 100 {
			t.Errorf("only %d codes come to %d", seen[e], e)
		}
	}
}

// swap emits and changes words, and has an error at the end if there are only two of them.
func swap() []api.Op {
	return code(op(api.Load, 1, 9), op(api.Load, 2, 9, 1), op(api.Store, 1, 9, 1), op(api.Store, 2, 9), op(api.Emit, 0), op(api.Emit, 1), op(api.Store, 0, 9, 2))
}

// The arguments stay as they are, including their spare capacity.
func TestArgumentsStay(t *testing.T) {
	c := append(swap(), repeat(api.MaxCode, op(api.Emit, 4))...)
	args, words := slices.Repeat([]int{41}, 30), upTo(300)
	codeBefore, argsBefore, wordsBefore := slices.Clone(c), slices.Clone(args), slices.Clone(words)
	for _, length := range []int{0, 1, 5, 7, 100, api.MaxCode, api.MaxCode + 1} {
		May(c[:length])
		for _, count := range []int{0, 1, api.MaxArgs, api.MaxArgs + 1} {
			for _, size := range []int{0, 1, 2, 3, api.MaxWords, api.MaxWords + 1} {
				for _, limit := range []int{-1, 0, 4, 100, api.MaxSteps} {
					Run(c[:length], args[:count], words[:size], limit)
				}
			}
		}
	}
	if !slices.Equal(c, codeBefore) || !slices.Equal(args, argsBefore) || !slices.Equal(words, wordsBefore) {
		t.Errorf("the arguments became %s, %s, %s", brief(c), brief(args), brief(words))
	}
}

// Results share memory neither with the arguments nor with each other nor with those of other calls.
func TestResultsAreNew(t *testing.T) {
	for size := 2; size <= 3; size++ {
		c, args, all := swap(), []int{70, 71, 72, 73}, []int{80, 81, 82, 83, 84, 85}
		want := result{[]int{70, 80}, []int{81, 80, 70}[:size], 7, api.OK}
		if size == 2 {
			want.e = api.ErrRange
		}
		first, second, third := run(c, args[:2], all[:size], 50), run(c, args[:2], all[:size], 50), run(c, args[:2], all[:size], 50)
		clear(first.told[:cap(first.told)])
		_ = append(first.told, 1, 2, 3, 4, 5, 6)
		if first.told = want.told; !first.equal(want) {
			t.Errorf("%d words: with other emitted numbers the result became %v", size, first)
		}
		clear(second.after[:cap(second.after)])
		_ = append(second.after, 1, 2, 3, 4, 5, 6)
		if second.after = want.after; !second.equal(want) {
			t.Errorf("%d words: with other words the result became %v", size, second)
		}
		if !slices.Equal(args, []int{70, 71, 72, 73}) || !slices.Equal(all, []int{80, 81, 82, 83, 84, 85}) || !slices.Equal(c, swap()) {
			t.Errorf("%d words: the arguments became %v, %v, %v", size, c, args, all)
		}
		clear(args)
		clear(all)
		clear(c)
		if !third.equal(want) {
			t.Errorf("%d words: without the arguments the result became %v", size, third)
		}
	}
}

// A list may be passed twice.
func TestRunSameListTwice(t *testing.T) {
	l := []int{4, 5, 6}
	wantRun(t, "words as arguments", code(op(api.Store, 2, 9), op(api.Emit, 0)), l, l, 9, result{[]int{4}, []int{6, 5, 6}, 2, api.OK})
	if !slices.Equal(l, []int{4, 5, 6}) {
		t.Errorf("the list became %v", l)
	}
}

// A result depends on the arguments of its call only.
func TestCallsAreIndependent(t *testing.T) {
	want := result{[]int{70, 80}, []int{81, 80, 70}, 7, api.OK}
	wantRun(t, "at first", swap(), []int{70}, []int{80, 81, 82}, 50, want)
	Run(counting(), upTo(8), upTo(200), api.MaxSteps)
	Run(nil, upTo(9), nil, 0)
	May(repeat(1000, op(0)))
	wantRun(t, "once more", swap(), []int{70}, []int{80, 81, 82}, 50, want)
	wantTold(t, "the registers are 0 again", tellAll(), nil, nil, api.MaxRegs, make([]int, api.MaxRegs)...)
}
