package asm

import (
	"fmt"
	"math"
	"slices"
	"testing"

	"barograph/api"
	"barograph/vm"
)

// op takes the fields from A on; those that are left out are 0.
func op(kind int, fields ...int) api.Op {
	fields = append(slices.Clone(fields), 0, 0, 0, 0)
	return api.Op{Kind: kind, A: fields[0], B: fields[1], C: fields[2], D: fields[3]}
}

func wantCode(t *testing.T, name string, b *Builder, want ...api.Op) {
	t.Helper()
	if got, e := b.Code(); e != api.OK || !slices.Equal(got, want) {
		t.Errorf("%s: Code = %v, %d, want %v", name, got, e, want)
	}
}

func wantError(t *testing.T, name string, b *Builder, want api.Errno) {
	t.Helper()
	if got, e := b.Code(); e != want || len(got) != 0 {
		t.Errorf("%s: Code = %v, %d, want the error %d alone", name, got, e, want)
	}
}

func TestNothing(t *testing.T) {
	wantCode(t, "no arguments", New())
	wantCode(t, "arguments", New("a", "b"))
}

func TestInstructions(t *testing.T) {
	b := New("a", "b")
	b.Set("c", math.MinInt)
	b.Copy("d", "a")
	b.Add("a", "b", "c")
	b.Sub("b", "d", "a")
	b.Div("c", "a", "b")
	b.Rem("d", "c", "b")
	b.Same("a", "d", "c")
	b.Load("e", "b", -7)
	b.Store("e", "d", 300)
	b.Cas("b", "c", 5, "f")
	wantCode(t, "all of them", b, op(api.Set, 2, math.MinInt), op(api.Copy, 3, 0), op(api.Add, 0, 1, 2),
		op(api.Sub, 1, 3, 0), op(api.Div, 2, 0, 1), op(api.Rem, 3, 2, 1), op(api.Same, 0, 3, 2),
		op(api.Load, 4, 1, -7), op(api.Store, 4, 3, 300), op(api.Cas, 1, 2, 5, 5))
}

func TestRegistersInTheOrderOfTheirNames(t *testing.T) {
	b := New("z", "y")
	b.Set("", 1)
	b.Set("z", 2)
	b.Set("x", 3)
	b.Set("y", 4)
	b.Set("", 5)
	wantCode(t, "each name", b, op(api.Set, 2, 1), op(api.Set, 0, 2), op(api.Set, 3, 3), op(api.Set, 1, 4), op(api.Set, 2, 5))
}

func TestEmit(t *testing.T) {
	b := New("a", "b")
	b.Emit()
	b.Emit("b")
	b.Emit([]string{"a", "c", "b", "a"}...)
	wantCode(t, "several registers", b, op(api.Emit, 1), op(api.Emit, 0), op(api.Emit, 2), op(api.Emit, 1), op(api.Emit, 0))
}

func TestLabels(t *testing.T) {
	b := New("a")
	b.Label("start")
	b.Label("a")
	b.Jump("end")
	b.When("a", "middle")
	b.Label("middle")
	b.When("b", "a")
	b.Jump("start")
	b.Unless("b", "middle")
	b.Unless("a", "end")
	b.When("a", "end")
	b.Label("end")
	wantCode(t, "forward and back", b, op(api.Jump, 7), op(api.When, 0, 2), op(api.When, 1, 0), op(api.Jump, 0),
		op(api.Unless, 1, 2), op(api.Unless, 0, 7), op(api.When, 0, 7))
}

// A code that adds the numbers from its argument down to 1.
func TestExecution(t *testing.T) {
	b := New("left")
	b.Set("minus one", -1)
	b.Label("again")
	b.Unless("left", "end")
	b.Add("sum", "sum", "left")
	b.Add("left", "left", "minus one")
	b.When("sum", "again")
	b.Label("end")
	b.Emit("sum", "left")
	code, _ := b.Code()
	for n, want := range []int{0, 1, 3, 6, 10, 15} {
		told, _, _, e := vm.Run(code, []int{n}, nil, api.MaxSteps)
		if e != api.OK || !slices.Equal(told, []int{want, 0}) {
			t.Errorf("up to %d: told %v, %d, want %d", n, told, e, want)
		}
	}
}

func TestNamesThatAreGivenTwice(t *testing.T) {
	wantError(t, "arguments", New("a", "b", "a"), api.ErrTwice)
	b := New()
	b.Label("x")
	b.Label("x")
	wantError(t, "labels at one place", b, api.ErrTwice)
	b = New()
	b.Label("x")
	b.Set("a", 1)
	b.Label("x")
	b.Jump("y")
	wantError(t, "labels at two places, and one that does not exist", b, api.ErrTwice)
	b = New("x")
	b.Label("x")
	b.When("x", "x")
	wantCode(t, "a register and a label", b, op(api.When, 0, 0))
}

func TestLabelsThatDoNotExist(t *testing.T) {
	b := New("x")
	b.Jump("x")
	wantError(t, "of a jump", b, api.ErrNone)
	b.Label("x")
	wantCode(t, "now it does", b, op(api.Jump, 1))
	b.When("x", "y")
	wantError(t, "of a When", b, api.ErrNone)
	b.Label("y")
	wantCode(t, "now this one does", b, op(api.Jump, 1), op(api.When, 0, 2))
	b.Unless("x", "z")
	wantError(t, "of an Unless", b, api.ErrNone)
}

// A jump to the label "" is not one that has no label.
func TestLabelWithoutLetters(t *testing.T) {
	b := New()
	b.Jump("")
	wantError(t, "before", b, api.ErrNone)
	b.Label("")
	wantCode(t, "after", b, op(api.Jump, 1))
}

func TestTooMuch(t *testing.T) {
	b := New()
	for i := range api.MaxRegs {
		b.Set(fmt.Sprint(i), i)
	}
	if code, e := b.Code(); e != api.OK || !vm.May(code) {
		t.Errorf("all registers: Code = %v, %d", code, e)
	}
	b.Set("one more", 0)
	wantError(t, "too many registers", b, api.ErrFull)
	b = New()
	for range api.MaxCode {
		b.Emit("a")
	}
	if code, e := b.Code(); e != api.OK || !vm.May(code) {
		t.Errorf("all instructions: Code = %v, %d", code, e)
	}
	b.Emit("a")
	wantError(t, "too many instructions", b, api.ErrFull)
}

// A code stays as it is when the builder goes on or another code changes.
func TestCodesAreNew(t *testing.T) {
	b := New("a")
	b.Jump("end")
	b.Emit("a", "a")
	b.Label("end")
	one, _ := b.Code()
	other, _ := b.Code()
	b.Emit("a")
	clear(other[:cap(other)])
	if want := []api.Op{op(api.Jump, 3), op(api.Emit, 0), op(api.Emit, 0)}; !slices.Equal(one, want) {
		t.Errorf("the code became %v, want %v", one, want)
	}
	wantCode(t, "the builder", b, op(api.Jump, 3), op(api.Emit, 0), op(api.Emit, 0), op(api.Emit, 0))
}
