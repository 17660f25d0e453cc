// Package bits packs nonnegative integers into fields of bits: see doc/01-bits.md.
package bits

import "barograph/api"

const byteBits = 8

// Write returns the bytes that contain the fields one after the other.
func Write(l []api.Field) ([]byte, api.Errno) {
	if code := checkFields(l); code != api.OK {
		return nil, code
	}
	b := make([]byte, (sumOfWidths(l)+byteBits-1)/byteBits)
	at := 0
	for _, f := range l {
		putField(b, at, f)
		at += f.Width
	}
	return b, api.OK
}

// Read returns the values of the fields with the given widths, and the total number of their bits.
func Read(b []byte, widths []int) ([]int, int, api.Errno) {
	if code := checkWidths(len(b)*byteBits, widths); code != api.OK {
		return nil, 0, code
	}
	values := make([]int, len(widths))
	at := 0
	for i, width := range widths {
		values[i] = takeField(b, at, width)
		at += width
	}
	return values, at, api.OK
}

func checkFields(l []api.Field) api.Errno {
	if len(l) > api.MaxFields {
		return api.ErrSize
	}
	for _, f := range l {
		if !isWidth(f.Width) {
			return api.ErrRange
		}
		if !fits(f) {
			return api.ErrOver
		}
	}
	return api.OK
}

func checkWidths(left int, widths []int) api.Errno {
	if len(widths) > api.MaxFields {
		return api.ErrSize
	}
	for _, width := range widths {
		if !isWidth(width) {
			return api.ErrRange
		}
		if width > left {
			return api.ErrShort
		}
		left -= width
	}
	return api.OK
}

func isWidth(width int) bool {
	return 0 <= width && width <= api.MaxBits
}

// fits expects a valid width: a shift by a negative number would panic.
func fits(f api.Field) bool {
	return f.Value >= 0 && f.Value>>f.Width == 0
}

func sumOfWidths(l []api.Field) int {
	sum := 0
	for _, f := range l {
		sum += f.Width
	}
	return sum
}

// putField only sets bits, so the bits of b from position at on must still be 0.
func putField(b []byte, at int, f api.Field) {
	for i := range f.Width {
		bit := f.Value >> (f.Width - 1 - i) & 1
		b[(at+i)/byteBits] |= byte(bit << shiftOf(at+i))
	}
}

func takeField(b []byte, at, width int) int {
	value := 0
	for i := at; i < at+width; i++ {
		bit := b[i/byteBits] >> shiftOf(i) & 1
		value = value<<1 | int(bit)
	}
	return value
}

// shiftOf counts from the top, because bytes are filled from the most significant bit down.
func shiftOf(at int) int {
	return byteBits - 1 - at%byteBits
}
