package bits

import (
	"fmt"
	"math"
	"slices"
	"strconv"
	"strings"
	"testing"

	"barograph/api"
)

const largest = 1<<api.MaxBits - 1

// fields takes pairs: a width, and its value.
func fields(pairs ...int) []api.Field {
	var l []api.Field
	for i := 0; i < len(pairs); i += 2 {
		l = append(l, api.Field{Width: pairs[i], Value: pairs[i+1]})
	}
	return l
}

func repeat(n int, f api.Field) []api.Field {
	return slices.Repeat([]api.Field{f}, n)
}

func wantBytes(t *testing.T, name string, l []api.Field, want []byte) {
	t.Helper()
	b, code := Write(l)
	if code != api.OK || !slices.Equal(b, want) {
		t.Errorf("%s: Write = %v, %d, want %v, %d", name, b, code, want, api.OK)
	}
}

func wantWriteError(t *testing.T, name string, l []api.Field, want api.Errno) {
	t.Helper()
	b, code := Write(l)
	if code != want || len(b) != 0 {
		t.Errorf("%s: Write = %v, %d, want no bytes and %d", name, b, code, want)
	}
}

func wantValues(t *testing.T, name string, b []byte, widths, want []int, wantBits int) {
	t.Helper()
	values, n, code := Read(b, widths)
	if code != api.OK || n != wantBits || !slices.Equal(values, want) {
		t.Errorf("%s: Read = %v, %d, %d, want %v, %d, %d", name, values, n, code, want, wantBits, api.OK)
	}
}

func wantReadError(t *testing.T, name string, b []byte, widths []int, want api.Errno) {
	t.Helper()
	values, n, code := Read(b, widths)
	if code != want || n != 0 || len(values) != 0 {
		t.Errorf("%s: Read = %v, %d, %d, want no values, 0 and %d", name, values, n, code, want)
	}
}

// P1.1: the packed bytes and the unused bits.
func TestWrite(t *testing.T) {
	for _, c := range []struct {
		name string
		l    []api.Field
		want []byte
	}{
		{"the document's example", fields(1, 1, 2, 2), []byte{192}},
		{"most significant bit first", fields(4, 1), []byte{16}},
		{"one whole byte", fields(8, 165), []byte{165}},
		{"two halves", fields(4, 10, 4, 5), []byte{165}},
		{"across one boundary", fields(5, 1, 6, 33), []byte{12, 32}},
		{"across two boundaries", fields(4, 15, 16, 0x1234), []byte{0xf1, 0x23, 0x40}},
		{"across eight boundaries", fields(7, 0, 60, largest), []byte{1, 255, 255, 255, 255, 255, 255, 255, 224}},
		{"zeros take room", fields(3, 0, 5, 0, 1, 0), []byte{0, 0}},
		{"leading zeros of a field", fields(20, 1, 4, 9), []byte{0, 0, 25}},
		{"exactly full", fields(3, 7, 13, 8191), []byte{255, 255}},
		{"one bit more", fields(3, 7, 13, 8191, 1, 1), []byte{255, 255, 128}},
	} {
		wantBytes(t, c.name, c.l, c.want)
	}
}

func TestWriteEdges(t *testing.T) {
	wantBytes(t, "nil", nil, nil)
	wantBytes(t, "empty", []api.Field{}, nil)
	wantBytes(t, "width 0 alone", fields(0, 0), nil)
	wantBytes(t, "width 0 first, between and last", fields(0, 0, 3, 5, 0, 0, 6, 33, 0, 0), []byte{176, 128})
	wantBytes(t, "width 0 at a byte boundary", fields(8, 1, 0, 0), []byte{1})
	wantBytes(t, "MaxBits, 0", fields(api.MaxBits, 0), make([]byte, 8))
	wantBytes(t, "MaxBits, 1", fields(api.MaxBits, 1), []byte{0, 0, 0, 0, 0, 0, 0, 16})
	wantBytes(t, "MaxBits, largest value", fields(api.MaxBits, largest),
		[]byte{255, 255, 255, 255, 255, 255, 255, 240})
	wantBytes(t, "MaxFields fields", repeat(api.MaxFields, api.Field{Width: 1, Value: 1}),
		slices.Repeat([]byte{255}, api.MaxFields/8))
	wantBytes(t, "MaxFields fields of MaxBits", repeat(api.MaxFields, api.Field{Width: api.MaxBits, Value: largest}),
		slices.Repeat([]byte{255}, api.MaxFields*api.MaxBits/8))
	wantBytes(t, "MaxFields fields of width 0", repeat(api.MaxFields, api.Field{}), nil)
}

// The largest value of every width fits, and the next one does not.
func TestWriteLargestOfEveryWidth(t *testing.T) {
	for width := 0; width <= api.MaxBits; width++ {
		name := fmt.Sprint("width ", width)
		wantBytes(t, name, fields(width, 1<<width-1), pack(strings.Repeat("1", width)))
		wantWriteError(t, name, fields(width, 1<<width), api.ErrOver)
	}
}

func TestWriteErrors(t *testing.T) {
	for _, c := range []struct {
		name string
		l    []api.Field
		want api.Errno
	}{
		{"one field too many", repeat(api.MaxFields+1, api.Field{Width: 1}), api.ErrSize},
		{"one field of width 0 too many", repeat(api.MaxFields+1, api.Field{}), api.ErrSize},
		{"width -1", fields(-1, 0), api.ErrRange},
		{"width MaxBits + 1", fields(api.MaxBits+1, 0), api.ErrRange},
		{"width 64", fields(64, 0), api.ErrRange},
		{"least width", fields(math.MinInt, 0), api.ErrRange},
		{"greatest width", fields(math.MaxInt, 0), api.ErrRange},
		{"value -1", fields(8, -1), api.ErrOver},
		{"value -1 of MaxBits", fields(api.MaxBits, -1), api.ErrOver},
		{"value -1 of width 0", fields(0, -1), api.ErrOver},
		{"least value", fields(api.MaxBits, math.MinInt), api.ErrOver},
		{"greatest value", fields(api.MaxBits, math.MaxInt), api.ErrOver},
		{"value 1 of width 0", fields(0, 1), api.ErrOver},
		{"value 8 of width 3", fields(3, 8), api.ErrOver},
		{"value whose low bits fit", fields(3, 1<<40), api.ErrOver},
		{"wrong width behind good fields", fields(3, 7, 0, 0, -1, 0), api.ErrRange},
		{"wrong value behind good fields", fields(3, 7, 0, 0, 1, 2), api.ErrOver},
		{"wrong width ahead of good fields", fields(-1, 0, 3, 7), api.ErrRange},
	} {
		wantWriteError(t, c.name, c.l, c.want)
	}
	last := repeat(api.MaxFields, api.Field{Width: 1, Value: 1})
	last[api.MaxFields-1].Value = 2
	wantWriteError(t, "wrong value of the last field", last, api.ErrOver)
}

func TestWriteErrorOrder(t *testing.T) {
	tooMany := repeat(api.MaxFields+1, api.Field{})
	tooMany[0] = api.Field{Width: -1, Value: -1}
	wantWriteError(t, "size ahead of range", tooMany, api.ErrSize)
	tooMany[0] = api.Field{Width: 1, Value: 2}
	wantWriteError(t, "size ahead of over", tooMany, api.ErrSize)
	wantWriteError(t, "range ahead of over, width below", fields(-1, -1), api.ErrRange)
	wantWriteError(t, "range ahead of over, width above", fields(61, math.MaxInt), api.ErrRange)
	wantWriteError(t, "the first field decides: over", fields(1, 2, -1, 0), api.ErrOver)
	wantWriteError(t, "the first field decides: range", fields(61, 0, 1, 2), api.ErrRange)
	wantWriteError(t, "the first wrong field decides", fields(1, 1, 2, 4, 61, 0), api.ErrOver)
}

// P1.2: the values, the number of bits, and the remaining bits.
func TestRead(t *testing.T) {
	for _, c := range []struct {
		name   string
		b      []byte
		widths []int
		want   []int
		bits   int
	}{
		{"the document's example", []byte{192}, []int{1, 2}, []int{1, 2}, 3},
		{"most significant bit first", []byte{16}, []int{4}, []int{1}, 4},
		{"one whole byte", []byte{165}, []int{8}, []int{165}, 8},
		{"two halves", []byte{165}, []int{4, 4}, []int{10, 5}, 8},
		{"across one boundary", []byte{12, 32}, []int{5, 6}, []int{1, 33}, 11},
		{"across two boundaries", []byte{0xf1, 0x23, 0x40}, []int{4, 16}, []int{15, 0x1234}, 20},
		{"across eight boundaries", []byte{1, 255, 255, 255, 255, 255, 255, 255, 224}, []int{7, 60}, []int{0, largest}, 67},
		{"exactly all bits", []byte{255, 1}, []int{3, 13}, []int{7, 7937}, 16},
		{"remaining bits that are not 0", []byte{0x5f, 255}, []int{2, 2}, []int{1, 1}, 4},
		{"remaining bytes", []byte{8, 9, 10}, []int{8}, []int{8}, 8},
	} {
		wantValues(t, c.name, c.b, c.widths, c.want, c.bits)
	}
}

func TestReadEdges(t *testing.T) {
	ones := slices.Repeat([]byte{255}, api.MaxFields*api.MaxBits/8)
	wantValues(t, "nil", nil, nil, nil, 0)
	wantValues(t, "empty", []byte{}, []int{}, nil, 0)
	wantValues(t, "no widths", []byte{255}, nil, nil, 0)
	wantValues(t, "width 0 of no bytes", nil, []int{0, 0}, []int{0, 0}, 0)
	wantValues(t, "width 0 first, between and last", []byte{176, 128}, []int{0, 3, 0, 6, 0}, []int{0, 5, 0, 33, 0}, 9)
	wantValues(t, "width 0 when no bits are left", []byte{7}, []int{8, 0}, []int{7, 0}, 8)
	wantValues(t, "MaxBits, largest value", ones[:8], []int{api.MaxBits}, []int{largest}, api.MaxBits)
	wantValues(t, "MaxBits, 0", []byte{0, 0, 0, 0, 0, 0, 0, 15}, []int{api.MaxBits}, []int{0}, api.MaxBits)
	wantValues(t, "MaxBits, 1", []byte{0, 0, 0, 0, 0, 0, 0, 31}, []int{api.MaxBits}, []int{1}, api.MaxBits)
	wantValues(t, "MaxFields widths", ones[:api.MaxFields/8],
		slices.Repeat([]int{1}, api.MaxFields), slices.Repeat([]int{1}, api.MaxFields), api.MaxFields)
	wantValues(t, "MaxFields widths of MaxBits", ones,
		slices.Repeat([]int{api.MaxBits}, api.MaxFields), slices.Repeat([]int{largest}, api.MaxFields), api.MaxFields*api.MaxBits)
	wantValues(t, "MaxFields widths of 0", nil, make([]int, api.MaxFields), make([]int, api.MaxFields), 0)
	wantValues(t, "bytes have no limit of their own", append(slices.Clone(ones), ones...), []int{2}, []int{3}, 2)
}

func TestReadErrors(t *testing.T) {
	for _, c := range []struct {
		name   string
		b      []byte
		widths []int
		want   api.Errno
	}{
		{"one width too many", make([]byte, 100), slices.Repeat([]int{1}, api.MaxFields+1), api.ErrSize},
		{"one width 0 too many", nil, make([]int, api.MaxFields+1), api.ErrSize},
		{"width -1", []byte{255}, []int{-1}, api.ErrRange},
		{"width MaxBits + 1", make([]byte, 20), []int{api.MaxBits + 1}, api.ErrRange},
		{"width 64", make([]byte, 20), []int{64}, api.ErrRange},
		{"least width", []byte{255}, []int{math.MinInt}, api.ErrRange},
		{"greatest width", []byte{255}, []int{math.MaxInt}, api.ErrRange},
		{"one bit of no bytes", nil, []int{1}, api.ErrShort},
		{"one bit too few", []byte{255}, []int{9}, api.ErrShort},
		{"one bit too few for the second", []byte{255}, []int{3, 6}, api.ErrShort},
		{"one bit too few for the last", []byte{255, 255}, []int{8, 0, 8, 0, 1}, api.ErrShort},
		{"MaxBits, four bits too few", make([]byte, 7), []int{api.MaxBits}, api.ErrShort},
		{"wrong width behind good ones", []byte{255}, []int{3, 0, -1}, api.ErrRange},
		{"wrong width ahead of good ones", []byte{255}, []int{-1, 3}, api.ErrRange},
	} {
		wantReadError(t, c.name, c.b, c.widths, c.want)
	}
}

func TestReadErrorOrder(t *testing.T) {
	tooMany := make([]int, api.MaxFields+1)
	tooMany[0] = -1
	wantReadError(t, "size ahead of range", nil, tooMany, api.ErrSize)
	tooMany[0] = 1
	wantReadError(t, "size ahead of short", nil, tooMany, api.ErrSize)
	wantReadError(t, "range ahead of short", nil, []int{61}, api.ErrRange)
	wantReadError(t, "the first width decides: short", []byte{176}, []int{9, -1}, api.ErrShort)
	wantReadError(t, "the first width decides: range", []byte{176}, []int{61, 9}, api.ErrRange)
	wantReadError(t, "the first wrong width decides", []byte{176}, []int{4, 5, 61}, api.ErrShort)
	wantReadError(t, "no bits are left, and the width is wrong", []byte{176}, []int{8, -1}, api.ErrRange)
}

// pack turns a text of binary digits into bytes, as a second way to the same result.
func pack(digits string) []byte {
	var b []byte
	for len(digits) > 0 {
		head := (digits + "0000000")[:8]
		n, _ := strconv.ParseUint(head, 2, 8)
		b = append(b, byte(n))
		digits = digits[min(8, len(digits)):]
	}
	return b
}

// mixedFields follows a fixed rule, so that the widths and values vary and the test stays repeatable.
func mixedFields(seed uint64, n int) []api.Field {
	next := func() uint64 {
		seed = seed*6364136223846793005 + 1442695040888963407
		return seed >> 3
	}
	var l []api.Field
	for range n {
		width := int(next() >> 20 % (api.MaxBits + 1))
		l = append(l, api.Field{Width: width, Value: int(next() % (1 << width))})
	}
	return l
}

func TestMixedFieldsAgreeWithDigits(t *testing.T) {
	for seed := range uint64(300) {
		l := mixedFields(seed, int(seed)+1)
		var digits string
		var widths, values []int
		for _, f := range l {
			if f.Width > 0 {
				digits += fmt.Sprintf("%0*b", f.Width, f.Value)
			}
			widths = append(widths, f.Width)
			values = append(values, f.Value)
		}
		b := pack(digits)
		name := fmt.Sprint("seed ", seed)
		wantBytes(t, name, l, b)
		wantValues(t, name, b, widths, values, len(digits))
		wantValues(t, name+" with a byte left over", append(b, 255), widths, values, len(digits))
	}
}

// Every pair of widths, at its largest values and with zeros beside them.
func TestEveryPairOfWidths(t *testing.T) {
	for a := range api.MaxBits + 1 {
		for c := range api.MaxBits + 1 {
			for _, l := range [][]api.Field{
				fields(a, 1<<a-1, c, 0),
				fields(a, 0, c, 1<<c-1),
			} {
				b, code := Write(l)
				if code != api.OK || len(b) != (a+c+7)/8 {
					t.Fatalf("widths %d and %d: Write = %v, %d", a, c, b, code)
				}
				wantValues(t, fmt.Sprint("widths ", a, " ", c), b, []int{a, c}, []int{l[0].Value, l[1].Value}, a+c)
			}
		}
	}
}

// The arguments stay as they are, including their spare capacity.
func TestArgumentsStay(t *testing.T) {
	l := fields(3, 5, 6, 33, 7, 7, 8, 8)
	lBefore := slices.Clone(l)
	b := []byte{176, 128, 77, 78}
	bBefore := slices.Clone(b)
	widths := []int{3, 6, 9, 10}
	widthsBefore := slices.Clone(widths)
	Write(l[:2])
	Write(append(l[:2:2], api.Field{Width: -1}))
	Read(b[:2], widths[:2])
	Read(b[:2], widths[:3])
	if !slices.Equal(l, lBefore) {
		t.Errorf("fields are %v, were %v", l, lBefore)
	}
	if !slices.Equal(b, bBefore) {
		t.Errorf("bytes are %v, were %v", b, bBefore)
	}
	if !slices.Equal(widths, widthsBefore) {
		t.Errorf("widths are %v, were %v", widths, widthsBefore)
	}
}

// Results share memory neither with the arguments nor with other results.
func TestResultsAreNew(t *testing.T) {
	l := fields(8, 1, 8, 2)
	first, _ := Write(l)
	second, _ := Write(l)
	clear(l)
	clear(second[:cap(second)])
	if !slices.Equal(first, []byte{1, 2}) {
		t.Errorf("bytes became %v", first)
	}

	b, widths := []byte{1, 2}, []int{8, 8}
	values, _, _ := Read(b, widths)
	others, _, _ := Read(b, widths)
	clear(b)
	clear(widths)
	clear(others[:cap(others)])
	if !slices.Equal(values, []int{1, 2}) {
		t.Errorf("values became %v", values)
	}

	b, widths = []byte{1, 2}, []int{8, 8}
	values, _, _ = Read(b, widths)
	clear(values[:cap(values)])
	if !slices.Equal(b, []byte{1, 2}) || !slices.Equal(widths, []int{8, 8}) {
		t.Errorf("arguments became %v and %v", b, widths)
	}
}
