package zig

import (
	"fmt"
	"math"
	"slices"
	"strconv"
	"strings"
	"testing"

	"barograph/api"
)

const (
	smallest = -1 << 58
	largest  = 1<<58 - 1
)

// edges: the numbers at which the code changes, with the digits of their codes.
var edges = []struct {
	n    int
	code string
}{
	{0, "0"},
	{-1, "10" + "000001"},
	{1, "10" + "000010"},
	{31, "10" + "111110"},
	{-32, "10" + "111111"},
	{32, "110" + "000001000000"},
	{-33, "110" + "000001000001"},
	{2047, "110" + "111111111110"},
	{-2048, "110" + "111111111111"},
	{2048, "1110" + "000000000001000000000000"},
	{-2049, "1110" + "000000000001000000000001"},
	{1<<23 - 1, "1110" + strings.Repeat("1", 23) + "0"},
	{-1 << 23, "1110" + strings.Repeat("1", 24)},
	{1 << 23, "1111" + strings.Repeat("0", 34) + "1" + strings.Repeat("0", 24)},
	{-1<<23 - 1, "1111" + strings.Repeat("0", 34) + "1" + strings.Repeat("0", 23) + "1"},
	{largest, "1111" + strings.Repeat("1", 58) + "0"},
	{smallest, "1111" + strings.Repeat("1", 59)},
}

var notSmall = []int{
	smallest - 1, largest + 1, smallest - 2, largest + 2, -1 << 59, 1 << 59, -1 << 60, 1 << 60,
	-1 << 62, 1 << 62, math.MinInt, math.MinInt + 1, math.MaxInt, math.MaxInt - 1,
}

// pack turns a text of binary digits into bytes, as a second way to the same result.
func pack(digits string) []byte {
	var b []byte
	for len(digits) > 0 {
		head := (digits + "0000000")[:8]
		n, _ := strconv.ParseUint(head, 2, 8)
		b = append(b, byte(n))
		digits = digits[min(8, len(digits)):]
	}
	return b
}

// codeDigits is the document's definition in text: the first width that has room for the digits.
func codeDigits(n int) string {
	folded := 2 * n
	if n < 0 {
		folded = -2*n - 1
	}
	if folded == 0 {
		return "0"
	}
	digits := strconv.FormatInt(int64(folded), 2)
	for _, c := range []struct {
		prefix string
		width  int
	}{{"10", 6}, {"110", 12}, {"1110", 24}, {"1111", 59}} {
		if len(digits) <= c.width {
			return c.prefix + strings.Repeat("0", c.width-len(digits)) + digits
		}
	}
	return ""
}

func joinCodes(l []int) string {
	var digits strings.Builder
	for _, n := range l {
		digits.WriteString(codeDigits(n))
	}
	return digits.String()
}

// mixedNumbers follows a fixed rule, so that the sizes and signs vary and the test stays repeatable.
func mixedNumbers(seed uint64, count int) []int {
	next := func() uint64 {
		seed = seed*6364136223846793005 + 1442695040888963407
		return seed >> 4
	}
	var l []int
	for range count {
		magnitude := int(next() % (1 << (next() >> 20 % 59)))
		if next()>>20%2 == 1 {
			magnitude = -magnitude - 1
		}
		l = append(l, magnitude)
	}
	return l
}

func wantNumber(t *testing.T, name string, got int, code api.Errno, want int) {
	t.Helper()
	if code != api.OK || got != want {
		t.Errorf("%s = %d, %d, want %d, %d", name, got, code, want, api.OK)
	}
}

func wantOver(t *testing.T, name string, got int, code api.Errno) {
	t.Helper()
	if code != api.ErrOver || got != 0 {
		t.Errorf("%s = %d, %d, want 0, %d", name, got, code, api.ErrOver)
	}
}

func wantBytes(t *testing.T, name string, l []int, want []byte) {
	t.Helper()
	b, code := Encode(l)
	if code != api.OK || !slices.Equal(b, want) {
		t.Errorf("%s: Encode = %v, %d, want %v, %d", name, b, code, want, api.OK)
	}
}

func wantEncodeError(t *testing.T, name string, l []int, want api.Errno) {
	t.Helper()
	b, code := Encode(l)
	if code != want || len(b) != 0 {
		t.Errorf("%s: Encode = %v, %d, want no bytes and %d", name, b, code, want)
	}
}

func wantNumbers(t *testing.T, name string, b []byte, count int, want []int) {
	t.Helper()
	l, code := Decode(b, count)
	if code != api.OK || !slices.Equal(l, want) {
		t.Errorf("%s: Decode = %v, %d, want %v, %d", name, l, code, want, api.OK)
	}
}

func wantDecodeError(t *testing.T, name string, b []byte, count int, want api.Errno) {
	t.Helper()
	l, code := Decode(b, count)
	if code != want || len(l) != 0 {
		t.Errorf("%s: Decode = %v, %d, want no numbers and %d", name, l, code, want)
	}
}

// P2.1: the zigzag encoding, its inverse, and their edges.
func TestFoldAndUnfold(t *testing.T) {
	for _, c := range []struct{ n, folded int }{
		{-2, 3}, // the document's examples
		{0, 0}, {-1, 1}, {1, 2}, {2, 4}, {-3, 5}, {5, 10}, {-5, 9},
		{1000000, 2000000}, {-1000000, 1999999},
		{1 << 57, 1 << 58}, {-1 << 57, 1<<58 - 1},
		{largest - 1, 1<<59 - 4}, {smallest + 1, 1<<59 - 3},
		{largest, 1<<59 - 2}, {smallest, 1<<59 - 1},
	} {
		folded, code := Fold(c.n)
		wantNumber(t, fmt.Sprintf("Fold(%d)", c.n), folded, code, c.folded)
		n, code := Unfold(c.folded)
		wantNumber(t, fmt.Sprintf("Unfold(%d)", c.folded), n, code, c.n)
	}
}

// The encodings from 0 on are those of 0, -1, 1, -2, 2 and so on.
func TestFoldOrder(t *testing.T) {
	want := 0
	for folded := range 5000 {
		n, code := Unfold(folded)
		wantNumber(t, fmt.Sprintf("Unfold(%d)", folded), n, code, want)
		back, code := Fold(want)
		wantNumber(t, fmt.Sprintf("Fold(%d)", want), back, code, folded)
		if want >= 0 {
			want = -want - 1
		} else {
			want = -want
		}
	}
}

func TestFoldOver(t *testing.T) {
	for _, n := range notSmall {
		folded, code := Fold(n)
		wantOver(t, fmt.Sprintf("Fold(%d)", n), folded, code)
	}
}

func TestUnfoldOver(t *testing.T) {
	for _, folded := range []int{
		-1, -2, -3, smallest, math.MinInt, math.MinInt + 1,
		1 << 59, 1<<59 + 1, 1 << 60, 1 << 62, math.MaxInt - 1, math.MaxInt,
	} {
		n, code := Unfold(folded)
		wantOver(t, fmt.Sprintf("Unfold(%d)", folded), n, code)
	}
}

// P2.2: the number of bits, and the bits, of each code at its edges.
func TestSize(t *testing.T) {
	for _, c := range []struct{ n, size int }{
		{5, 8}, // the document's example
		{0, 1}, {1, 8}, {-1, 8}, {100, 15}, {-100, 15}, {5000, 28}, {-5000, 28},
		{1 << 40, 63}, {-1 << 40, 63},
	} {
		size, code := Size(c.n)
		wantNumber(t, fmt.Sprintf("Size(%d)", c.n), size, code, c.size)
	}
	for _, c := range edges {
		size, code := Size(c.n)
		wantNumber(t, fmt.Sprintf("Size(%d)", c.n), size, code, len(c.code))
	}
	for n := -5000; n <= 5000; n++ {
		size, code := Size(n)
		wantNumber(t, fmt.Sprintf("Size(%d)", n), size, code, len(codeDigits(n)))
	}
}

func TestSizeOver(t *testing.T) {
	for _, n := range notSmall {
		size, code := Size(n)
		wantOver(t, fmt.Sprintf("Size(%d)", n), size, code)
	}
}

func TestCodeAtEdges(t *testing.T) {
	for _, c := range edges {
		name := fmt.Sprint("number ", c.n)
		wantBytes(t, name, []int{c.n}, pack(c.code))
		wantNumbers(t, name, pack(c.code), 1, []int{c.n})
		for _, beside := range edges {
			l := []int{c.n, beside.n}
			b := pack(c.code + beside.code)
			name := fmt.Sprint("numbers ", l)
			wantBytes(t, name, l, b)
			wantNumbers(t, name, b, 2, l)
		}
	}
}

// P2.3: the codes one after the other.
func TestEncode(t *testing.T) {
	wantBytes(t, "the document's example", []int{0, 0}, []byte{0})
	wantBytes(t, "nil", nil, nil)
	wantBytes(t, "empty", []int{}, nil)
	wantBytes(t, "one 0", []int{0}, []byte{0})
	wantBytes(t, "eight zeros", make([]int, 8), []byte{0})
	wantBytes(t, "nine zeros", make([]int, 9), []byte{0, 0})
	wantBytes(t, "three sizes", []int{0, -1, 40}, []byte{64, 224, 80})
	wantBytes(t, "unused bits are 0", []int{smallest, 0}, []byte{255, 255, 255, 255, 255, 255, 255, 254})
	wantBytes(t, "unused bits are 0 behind ones", []int{smallest}, []byte{255, 255, 255, 255, 255, 255, 255, 254})
	wantBytes(t, "2 * MaxSamples zeros", make([]int, 2*api.MaxSamples), make([]byte, 2*api.MaxSamples/8))
}

// All these numbers together have more bits, and more prefixes and numbers, than bits.Write takes fields.
func TestMostNumbers(t *testing.T) {
	for _, n := range []int{0, -1, 31, -33, 2048, largest, smallest, 0x155555555555555} {
		l := slices.Repeat([]int{n}, 2*api.MaxSamples)
		b := pack(joinCodes(l))
		name := fmt.Sprint("2 * MaxSamples times ", n)
		wantBytes(t, name, l, b)
		wantNumbers(t, name, b, len(l), l)
	}
}

func TestMixedNumbersAgreeWithDigits(t *testing.T) {
	for seed := range uint64(2 * api.MaxSamples) {
		l := mixedNumbers(seed, int(seed)+1)
		digits := joinCodes(l)
		b := pack(digits)
		name := fmt.Sprint("seed ", seed)
		wantBytes(t, name, l, b)
		wantNumbers(t, name, b, len(l), l)
		wantNumbers(t, name+" with ones left over", pack(digits+"1111111111"), len(l), l)
		wantNumbers(t, name+" one fewer", b, len(l)-1, l[:len(l)-1])
	}
}

func TestEncodeErrors(t *testing.T) {
	wantEncodeError(t, "one number too many", make([]int, 2*api.MaxSamples+1), api.ErrSize)
	wantEncodeError(t, "many numbers too many", make([]int, 1000), api.ErrSize)
	for _, n := range notSmall {
		wantEncodeError(t, "not small", []int{n}, api.ErrOver)
		wantEncodeError(t, "not small, first", []int{n, 1, 2}, api.ErrOver)
		wantEncodeError(t, "not small, last", []int{0, 1, n}, api.ErrOver)
	}
	last := make([]int, 2*api.MaxSamples)
	last[2*api.MaxSamples-1] = largest + 1
	wantEncodeError(t, "not small, last of the most numbers", last, api.ErrOver)
}

func TestEncodeErrorOrder(t *testing.T) {
	l := slices.Repeat([]int{math.MaxInt}, 2*api.MaxSamples+1)
	wantEncodeError(t, "size ahead of over", l, api.ErrSize)
	wantEncodeError(t, "one fewer", l[1:], api.ErrOver)
}

func TestDecode(t *testing.T) {
	wantNumbers(t, "the document's example", []byte{0}, 2, []int{0, 0})
	wantNumbers(t, "three sizes", []byte{64, 224, 80}, 3, []int{0, -1, 40})
	wantNumbers(t, "count 0 of nil", nil, 0, nil)
	wantNumbers(t, "count 0 of empty", []byte{}, 0, nil)
	wantNumbers(t, "count 0, bits left over", []byte{255, 255}, 0, nil)
	wantNumbers(t, "fewer than are encoded", []byte{64, 224, 80}, 2, []int{0, -1})
	wantNumbers(t, "all the bits of a byte", []byte{0}, 8, make([]int, 8))
	wantNumbers(t, "a code that ends with the bytes", []byte{129}, 1, []int{-1})
	wantNumbers(t, "ones left over", []byte{127}, 1, []int{0})
	wantNumbers(t, "a wrong code left over", []byte{129, 128}, 1, []int{-1})
	wantNumbers(t, "bytes left over", append([]byte{129}, slices.Repeat([]byte{255}, 9000)...), 1, []int{-1})
	wantNumbers(t, "2 * MaxSamples zeros", make([]byte, 30), 2*api.MaxSamples, make([]int, 2*api.MaxSamples))
	wantNumbers(t, "2 * MaxSamples zeros, bytes left over", make([]byte, 31), 2*api.MaxSamples, make([]int, 2*api.MaxSamples))
}

func TestDecodeRange(t *testing.T) {
	for _, count := range []int{-1, -2, math.MinInt, 2*api.MaxSamples + 1, 1000, math.MaxInt} {
		name := fmt.Sprint("count ", count)
		wantDecodeError(t, name, make([]byte, 1000), count, api.ErrRange)
		wantDecodeError(t, name+", range ahead of short", nil, count, api.ErrRange)
		wantDecodeError(t, name+", range ahead of form", []byte{128}, count, api.ErrRange)
	}
}

// Every code is put at the end of whole bytes, with some of its bits cut off.
func TestDecodeShort(t *testing.T) {
	wantDecodeError(t, "no bytes", nil, 1, api.ErrShort)
	wantDecodeError(t, "one code too few", []byte{0}, 9, api.ErrShort)
	wantDecodeError(t, "2 * MaxSamples, one byte too few", make([]byte, 29), 2*api.MaxSamples, api.ErrShort)
	for _, c := range edges {
		for cut := range len(c.code) {
			zeros := (8 - cut%8) % 8
			b := pack(strings.Repeat("0", zeros) + c.code[:cut])
			name := fmt.Sprintf("%d bits of the code of %d", cut, c.n)
			wantDecodeError(t, name, b, zeros+1, api.ErrShort)
			wantNumbers(t, name+", not asked for", b, zeros, make([]int, zeros))
		}
	}
}

// Each number is put into every longer code.
func TestDecodeForm(t *testing.T) {
	longer := []struct {
		prefix string
		width  int
	}{{"10", 6}, {"110", 12}, {"1110", 24}, {"1111", 59}}
	for _, c := range edges {
		folded, _ := Fold(c.n)
		for _, l := range longer {
			if len(l.prefix)+l.width <= len(c.code) {
				continue
			}
			digits := l.prefix + fmt.Sprintf("%0*b", l.width, folded)
			name := fmt.Sprintf("%d with the prefix %s", c.n, l.prefix)
			wantDecodeError(t, name, pack(digits), 1, api.ErrForm)
			wantDecodeError(t, name+" behind others", pack("0"+codeDigits(77)+digits), 3, api.ErrForm)
			wantNumbers(t, name+", not asked for", pack("0"+codeDigits(77)+digits), 2, []int{0, 77})
		}
	}
}

func TestDecodeErrorOrder(t *testing.T) {
	long := "10000000"
	wantDecodeError(t, "short ahead of form, 12 bits", pack("110"+"00000"), 1, api.ErrShort)
	wantDecodeError(t, "short ahead of form, 24 bits", pack("1110"+"0000"), 1, api.ErrShort)
	wantDecodeError(t, "short ahead of form, 59 bits", pack("1111"+"0000"), 1, api.ErrShort)
	wantDecodeError(t, "the first code decides: form", pack(long), 2, api.ErrForm)
	wantDecodeError(t, "the first wrong code decides: form", pack("00000000"+long), 10, api.ErrForm)
	wantDecodeError(t, "form behind a good code", pack("10000001"+long), 2, api.ErrForm)
	wantDecodeError(t, "short behind a good code", pack("10000001"+"11000000"), 2, api.ErrShort)
}

// The arguments stay as they are, including their spare capacity.
func TestArgumentsStay(t *testing.T) {
	l := []int{0, -1, 40, 7, 8}
	lBefore := slices.Clone(l)
	b := []byte{64, 224, 80, 77, 78}
	bBefore := slices.Clone(b)
	Encode(l[:3])
	Encode(append(l[:3:3], largest+1))
	Decode(b[:3], 3)
	Decode(b[:3], 9)
	if !slices.Equal(l, lBefore) {
		t.Errorf("numbers are %v, were %v", l, lBefore)
	}
	if !slices.Equal(b, bBefore) {
		t.Errorf("bytes are %v, were %v", b, bBefore)
	}
}

// Results share memory neither with the arguments nor with other results.
func TestResultsAreNew(t *testing.T) {
	l, b := []int{0, -1, 40}, []byte{64, 224, 80}
	firstBytes, _ := Encode(l)
	otherBytes, _ := Encode(l)
	firstNumbers, _ := Decode(b, 3)
	otherNumbers, _ := Decode(b, 3)
	clear(l)
	clear(b)
	clear(otherBytes[:cap(otherBytes)])
	clear(otherNumbers[:cap(otherNumbers)])
	if !slices.Equal(firstBytes, []byte{64, 224, 80}) {
		t.Errorf("bytes became %v", firstBytes)
	}
	if !slices.Equal(firstNumbers, []int{0, -1, 40}) {
		t.Errorf("numbers became %v", firstNumbers)
	}
}
