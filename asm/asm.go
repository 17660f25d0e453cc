// Package asm assembles codes for the register machine of package vm, with names in place of numbers.
package asm

import (
	"slices"

	"barograph/api"
	"barograph/vm"
)

// Builder: of one code, instruction by instruction. A register has a number from the first use of its name on. What is
// wrong with a code is found by Code.
type Builder struct {
	code      []api.Op
	registers map[string]int
	labels    map[string]int // the number of the instruction behind each label
	jumps     []jump
	twice     bool // a name has been given twice
}

// jump: an instruction whose target is known when all labels are.
type jump struct {
	at    int
	label string
}

// New returns a builder of a code whose arguments have these names, in order.
func New(args ...string) *Builder {
	b := &Builder{registers: map[string]int{}, labels: map[string]int{}}
	for _, name := range args {
		if _, named := b.registers[name]; named {
			b.twice = true
		}
		b.register(name)
	}
	return b
}

// Code returns the code. The error is ErrTwice if two arguments or two labels have the same name, ErrNone if there is
// a jump to a label that does not exist, and ErrFull if there are more registers or instructions than a code can have.
func (b *Builder) Code() ([]api.Op, api.Errno) {
	if b.twice {
		return nil, api.ErrTwice
	}
	code := slices.Clone(b.code)
	for _, j := range b.jumps {
		target, exists := b.labels[j.label]
		if !exists {
			return nil, api.ErrNone
		}
		if op := &code[j.at]; op.Kind == api.Jump {
			op.A = target
		} else {
			op.B = target
		}
	}
	if !vm.May(code) {
		return nil, api.ErrFull
	}
	return code, api.OK
}

// Label marks the place of the next instruction.
func (b *Builder) Label(name string) {
	if _, exists := b.labels[name]; exists {
		b.twice = true
	}
	b.labels[name] = len(b.code)
}

// Set gives a register a number.
func (b *Builder) Set(to string, number int) {
	b.append(api.Op{Kind: api.Set, A: b.register(to), B: number})
}

// Copy gives a register the number of another one.
func (b *Builder) Copy(to, from string) {
	b.append(api.Op{Kind: api.Copy, A: b.register(to), B: b.register(from)})
}

// Add gives a register the sum of two others.
func (b *Builder) Add(to, left, right string) {
	b.append(api.Op{Kind: api.Add, A: b.register(to), B: b.register(left), C: b.register(right)})
}

// Sub gives a register the difference of two others.
func (b *Builder) Sub(to, left, right string) {
	b.append(api.Op{Kind: api.Sub, A: b.register(to), B: b.register(left), C: b.register(right)})
}

// Div gives a register the quotient of two others.
func (b *Builder) Div(to, left, right string) {
	b.append(api.Op{Kind: api.Div, A: b.register(to), B: b.register(left), C: b.register(right)})
}

// Rem gives a register the remainder of two others.
func (b *Builder) Rem(to, left, right string) {
	b.append(api.Op{Kind: api.Rem, A: b.register(to), B: b.register(left), C: b.register(right)})
}

// Same gives a register 1 if two others are equal, else 0.
func (b *Builder) Same(to, left, right string) {
	b.append(api.Op{Kind: api.Same, A: b.register(to), B: b.register(left), C: b.register(right)})
}

// Jump goes on at a label.
func (b *Builder) Jump(label string) {
	b.jump(label)
	b.append(api.Op{Kind: api.Jump})
}

// When goes on at a label if the register is not 0.
func (b *Builder) When(register, label string) {
	b.jump(label)
	b.append(api.Op{Kind: api.When, A: b.register(register)})
}

// Unless goes on at a label if the register is 0.
func (b *Builder) Unless(register, label string) {
	b.jump(label)
	b.append(api.Op{Kind: api.Unless, A: b.register(register)})
}

// Load reads the shared word whose address is the sum of the register base and the offset.
func (b *Builder) Load(to, base string, offset int) {
	b.append(api.Op{Kind: api.Load, A: b.register(to), B: b.register(base), C: offset})
}

// Store writes the shared word whose address is the sum of the register base and the offset.
func (b *Builder) Store(from, base string, offset int) {
	b.append(api.Op{Kind: api.Store, A: b.register(from), B: b.register(base), C: offset})
}

// Cas writes the register given to the shared word if this contains what the register expected contains, and sets
// given to 1; else it sets given to 0.
func (b *Builder) Cas(given, base string, offset int, expected string) {
	b.append(api.Op{Kind: api.Cas, A: b.register(given), B: b.register(base), C: offset, D: b.register(expected)})
}

// Emit tells the numbers of the registers in order.
func (b *Builder) Emit(registers ...string) {
	for _, name := range registers {
		b.append(api.Op{Kind: api.Emit, A: b.register(name)})
	}
}

func (b *Builder) append(op api.Op) {
	b.code = append(b.code, op)
}

// jump notes that the next instruction goes on at the label.
func (b *Builder) jump(label string) {
	b.jumps = append(b.jumps, jump{len(b.code), label})
}

func (b *Builder) register(name string) int {
	number, named := b.registers[name]
	if !named {
		number = len(b.registers)
		b.registers[name] = number
	}
	return number
}
