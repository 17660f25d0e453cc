package chunk

import (
	"fmt"
	"math"
	"slices"
	"strconv"
	"strings"
	"testing"

	"barograph/api"
)

const (
	smallest = -1 << 55
	largest  = 1<<55 - 1
)

// sizes: numbers at the ends of each of the five sizes of codes, as far as the differences of samples reach.
var sizes = []int{
	0,
	1, -1, 31, -32,
	32, -33, 2047, -2048,
	2048, -2049, 1<<23 - 1, -1 << 23,
	1 << 23, -1<<23 - 1, 1 << 40, -1 << 40, largest, smallest,
}

var outside = []int{
	smallest - 1, largest + 1, -1 << 56, 1 << 56, -1 << 58, 1 << 58,
	math.MinInt, math.MinInt + 1, math.MaxInt - 1, math.MaxInt,
}

// samples takes pairs: a time, and its value.
func samples(pairs ...int) []api.Sample {
	var l []api.Sample
	for i := 0; i < len(pairs); i += 2 {
		l = append(l, api.Sample{Time: pairs[i], Value: pairs[i+1]})
	}
	return l
}

// regular returns samples with the same step and the same value.
func regular(count, step, value int) []api.Sample {
	var l []api.Sample
	for i := range count {
		l = append(l, api.Sample{Time: i * step, Value: value})
	}
	return l
}

// pack turns a text of binary digits into bytes, as a second way to the same result.
func pack(digits string) []byte {
	var b []byte
	for len(digits) > 0 {
		head := (digits + "0000000")[:8]
		n, _ := strconv.ParseUint(head, 2, 8)
		b = append(b, byte(n))
		digits = digits[min(8, len(digits)):]
	}
	return b
}

var codes = []struct {
	prefix string
	width  int
}{{"0", 0}, {"10", 6}, {"110", 12}, {"1110", 24}, {"1111", 59}}

func folded(n int) int {
	if n < 0 {
		return -2*n - 1
	}
	return 2 * n
}

// digitsOf writes the code of n with the first width that has room for it.
func digitsOf(n int) string {
	for i, c := range codes {
		if folded(n)>>c.width == 0 {
			return digitsAs(i, n)
		}
	}
	return ""
}

// digitsAs writes n with the code of the given position in codes, fitting or not.
func digitsAs(position, n int) string {
	c := codes[position]
	if c.width == 0 {
		return c.prefix
	}
	return c.prefix + fmt.Sprintf("%0*b", c.width, folded(n))
}

func joinCodes(numbers ...int) string {
	var digits strings.Builder
	for _, n := range numbers {
		digits.WriteString(digitsOf(n))
	}
	return digits.String()
}

// chunkOf puts the number of samples ahead of the codes.
func chunkOf(count int, digits string) []byte {
	return append([]byte{byte(count)}, pack(digits)...)
}

// numbersOf writes down the document's definition from the list as a whole, without a state.
func numbersOf(l []api.Sample) []int {
	step := func(i int) int {
		if i == 0 {
			return 0
		}
		return l[i].Time - l[i-1].Time
	}
	var numbers []int
	for i, s := range l {
		if i == 0 {
			numbers = append(numbers, s.Time, s.Value)
			continue
		}
		numbers = append(numbers, step(i)-step(i-1), s.Value-l[i-1].Value)
	}
	return numbers
}

// takeCode reads one code from binary digits, and returns the digits behind it.
func takeCode(digits string) (int, string, api.Errno) {
	for i, c := range codes {
		if len(digits) < len(c.prefix) {
			return 0, "", api.ErrShort
		}
		if !strings.HasPrefix(digits, c.prefix) {
			continue
		}
		size := len(c.prefix) + c.width
		if len(digits) < size {
			return 0, "", api.ErrShort
		}
		n, _ := strconv.ParseInt("0"+digits[len(c.prefix):size], 2, 64)
		if i > 0 && n>>codes[i-1].width == 0 {
			return 0, "", api.ErrForm
		}
		if n%2 == 1 {
			return -int(n+1) / 2, digits[size:], api.OK
		}
		return int(n / 2), digits[size:], api.OK
	}
	return 0, "", api.ErrForm
}

// decodeDigits is a second decoder, which reads binary digits in the document's order.
func decodeDigits(b []byte) ([]api.Sample, api.Errno) {
	if len(b) == 0 {
		return nil, api.ErrShort
	}
	if b[0] > api.MaxSamples {
		return nil, api.ErrForm
	}
	var text strings.Builder
	for _, x := range b[1:] {
		fmt.Fprintf(&text, "%08b", x)
	}
	digits := text.String()
	var l []api.Sample
	for i := range int(b[0]) {
		var pair [2]int
		for k := range pair {
			var code api.Errno
			if pair[k], digits, code = takeCode(digits); code != api.OK {
				return nil, code
			}
		}
		s := api.Sample{Time: pair[0], Value: pair[1]}
		if i > 0 {
			s.Time += l[i-1].Time
			s.Value += l[i-1].Value
		}
		if i > 1 {
			s.Time += l[i-1].Time - l[i-2].Time
		}
		if min(s.Time, s.Value) < smallest || max(s.Time, s.Value) > largest || i > 0 && s.Time <= l[i-1].Time {
			return nil, api.ErrForm
		}
		l = append(l, s)
	}
	if len(digits) >= 8 || strings.Contains(digits, "1") {
		return nil, api.ErrForm
	}
	return l, api.OK
}

func wantBytes(t *testing.T, name string, l []api.Sample, want []byte) {
	t.Helper()
	b, code := Encode(l)
	if code != api.OK || !slices.Equal(b, want) {
		t.Errorf("%s: Encode = %v, %d, want %v, %d", name, b, code, want, api.OK)
	}
}

func wantEncodeError(t *testing.T, name string, l []api.Sample, want api.Errno) {
	t.Helper()
	b, code := Encode(l)
	if code != want || len(b) != 0 {
		t.Errorf("%s: Encode = %v, %d, want no bytes and %d", name, b, code, want)
	}
}

func wantSamples(t *testing.T, name string, b []byte, want []api.Sample) {
	t.Helper()
	l, code := Decode(b)
	if code != api.OK || !slices.Equal(l, want) {
		t.Errorf("%s: Decode = %v, %d, want %v, %d", name, l, code, want, api.OK)
	}
}

func wantDecodeError(t *testing.T, name string, b []byte, want api.Errno) {
	t.Helper()
	l, code := Decode(b)
	if code != want || len(l) != 0 {
		t.Errorf("%s: Decode = %v, %d, want no samples and %d", name, l, code, want)
	}
}

// wantBoth checks the encoding in both directions.
func wantBoth(t *testing.T, name string, l []api.Sample, b []byte) {
	t.Helper()
	wantBytes(t, name, l, b)
	wantSamples(t, name, b, l)
}

// wantDigits checks the encoding of l against the document's definition in digits.
func wantDigits(t *testing.T, name string, l []api.Sample) {
	t.Helper()
	wantBoth(t, name, l, chunkOf(len(l), joinCodes(numbersOf(l)...)))
}

// P3.1 and P3.2: bytes written out by hand.
func TestChunks(t *testing.T) {
	for _, c := range []struct {
		name string
		l    []api.Sample
		want []byte
	}{
		{"the document's example", nil, []byte{0}},
		{"one sample of zeros", samples(0, 0), []byte{1, 0}},
		{"one sample", samples(10, 5), []byte{1, 148, 138}},
		{"one sample below 0", samples(-10, -5), []byte{1, 147, 137}},
		{"time and value are not mixed up", samples(5, 10), []byte{1, 138, 148}},
		{"the first step is 0", samples(10, 5, 20, 5), []byte{2, 148, 138, 148, 0}},
		{"the first step is 0, not the first time", samples(10, 0, 11, 0), []byte{2, 148, 65, 0}},
		{"the step after the second counts", samples(0, 0, 1, 0, 2, 0), []byte{3, 32, 128}},
		{"regular times", samples(10, 5, 20, 5, 30, 5, 40, 4), []byte{4, 148, 138, 148, 8, 16}},
		{"irregular times", samples(0, 0, 5, 0, 7, 0, 17, 0), []byte{4, 34, 144, 169, 0}},
		{"values of both signs", samples(0, 0, 1, -1, 2, 1, 3, -3), []byte{4, 32, 160, 80, 136, 112}},
		{"ends with a whole byte", samples(0, 0, 3, 0, 6, 1, 9, 1, 12, 1), []byte{5, 33, 136, 32}},
		{"ends with a whole byte, whose last bit is 1", samples(0, 0, 3, 0, 6, 0, 9, 0, 12, -1), []byte{5, 33, 128, 129}},
	} {
		wantBoth(t, c.name, c.l, c.want)
	}
	wantBytes(t, "empty", []api.Sample{}, []byte{0})
}

// The example of the document's introduction: two bits for each sample that goes on regularly.
func TestRegularSamplesTakeTwoBits(t *testing.T) {
	for _, count := range []int{3, 4, 6, 7, api.MaxSamples} {
		b, code := Encode(regular(count, 10, 0))
		bits := 2 + 9 + 2*(count-2)
		if code != api.OK || len(b) != 1+(bits+7)/8 {
			t.Errorf("%d samples: Encode = %v, %d, want %d bits", count, b, code, bits)
		}
	}
}

// Each size of code, as the time and the value of the first, the second and the third sample.
func TestEverySizeOfCode(t *testing.T) {
	for _, n := range sizes {
		wantDigits(t, fmt.Sprint("first time ", n), samples(n, 0))
		wantDigits(t, fmt.Sprint("first value ", n), samples(0, n))
		wantDigits(t, fmt.Sprint("difference of values ", n), samples(0, 0, 1, n))
		wantDigits(t, fmt.Sprint("difference of values and back ", n), samples(0, 0, 1, n, 2, 0))
		if n > 0 {
			wantDigits(t, fmt.Sprint("step ", n), samples(0, 0, n, 0))
		}
		if n < largest-1 {
			wantDigits(t, fmt.Sprint("difference of steps ", n), differenceOfSteps(n))
		}
		for _, m := range sizes {
			wantDigits(t, fmt.Sprint("both codes ", n, m), samples(n, m))
			wantDigits(t, fmt.Sprint("two values ", n, m), samples(-1, n, 7, m))
		}
	}
}

// differenceOfSteps returns three samples, the last of which has a step that differs by n.
func differenceOfSteps(n int) []api.Sample {
	step := max(1, 1-n)
	return samples(smallest, 0, smallest+step, 0, smallest+step+step+n, 0)
}

func TestEdgesOfTheRange(t *testing.T) {
	for _, l := range [][]api.Sample{
		samples(smallest, smallest),
		samples(smallest, largest),
		samples(largest, smallest),
		samples(largest, largest),
		samples(smallest, smallest, largest, largest),
		samples(smallest, largest, largest, smallest),
		samples(smallest, smallest, smallest+1, largest, largest, smallest),
		samples(smallest, largest, largest-1, smallest, largest, largest),
		samples(smallest, 0, 0, largest, largest, smallest),
		samples(largest-2, 0, largest-1, 0, largest, 0),
	} {
		wantDigits(t, fmt.Sprint(l), l)
	}
	wantBoth(t, "the largest difference of both", samples(smallest, smallest, largest, largest), chunkOf(2,
		joinCodes(smallest, smallest, 1<<56-1, 1<<56-1)))
	wantBoth(t, "the largest difference of steps", samples(smallest, 0, smallest+1, 0, largest, 0), chunkOf(3,
		joinCodes(smallest, 0, 1, 0, 1<<56-3, 0)))
	wantBoth(t, "the smallest difference of steps", samples(smallest, 0, largest-1, 0, largest, 0), chunkOf(3,
		joinCodes(smallest, 0, 1<<56-2, 0, 3-1<<56, 0)))
}

// The codes of these samples end at every bit of a byte.
func TestEndsAtEveryBit(t *testing.T) {
	ends := map[int]bool{}
	for count := range 13 {
		l := regular(count, 10, 0)
		ends[len(joinCodes(numbersOf(l)...))%8] = true
		wantDigits(t, fmt.Sprint("even bits ", count), l)
		if count > 0 {
			l = regular(count, 10, 5)
			ends[len(joinCodes(numbersOf(l)...))%8] = true
			wantDigits(t, fmt.Sprint("odd bits ", count), l)
		}
	}
	if len(ends) != 8 {
		t.Errorf("the codes end at %v only", ends)
	}
}

// widest returns count samples, almost all of whose codes have the largest size.
func widest(count int) []api.Sample {
	var l []api.Sample
	for i := range count {
		s := api.Sample{Time: smallest + i*1<<48, Value: smallest}
		if i%2 == 1 {
			s.Time += 1 << 40
			s.Value = largest
		}
		l = append(l, s)
	}
	return l
}

func TestMaxSamples(t *testing.T) {
	wantBoth(t, "zeros and one step", regular(api.MaxSamples, 1, 0), chunkOf(api.MaxSamples,
		"00"+"10000010"+strings.Repeat("0", 1+2*(api.MaxSamples-2))))
	wantDigits(t, "the widest codes", widest(api.MaxSamples))
	wantDigits(t, "one fewer", widest(api.MaxSamples-1))
}

// mixedSamples follows a fixed rule, so that the steps and values vary and the test stays repeatable.
func mixedSamples(seed uint64, count int) []api.Sample {
	next := func(bits uint64) int {
		seed = seed*6364136223846793005 + 1442695040888963407
		return int(seed >> 8 % (1 << (seed >> 20 % (bits + 1))))
	}
	var l []api.Sample
	time := -next(50)
	for range count {
		l = append(l, api.Sample{Time: time, Value: next(54) - next(54)})
		time += 1 + next(46)
	}
	return l
}

func TestMixedSamplesAgreeWithDigits(t *testing.T) {
	for seed := range uint64(5 * api.MaxSamples) {
		wantDigits(t, fmt.Sprint("seed ", seed), mixedSamples(seed, int(seed%api.MaxSamples)+1))
	}
}

func TestEncodeSize(t *testing.T) {
	wantEncodeError(t, "one sample too many", regular(api.MaxSamples+1, 1, 0), api.ErrSize)
	wantEncodeError(t, "more than a byte counts", regular(256, 1, 0), api.ErrSize)
	wantEncodeError(t, "a byte would count 1", regular(257, 1, 0), api.ErrSize)
}

func TestEncodeOver(t *testing.T) {
	for _, n := range outside {
		name := fmt.Sprint("out of range ", n)
		wantEncodeError(t, name+": time", samples(n, 0), api.ErrOver)
		wantEncodeError(t, name+": value", samples(0, n), api.ErrOver)
		wantEncodeError(t, name+": time and value", samples(n, n), api.ErrOver)
		wantEncodeError(t, name+": first value", samples(0, n, 1, 1), api.ErrOver)
		wantEncodeError(t, name+": second value", samples(0, 0, 1, n), api.ErrOver)
		wantEncodeError(t, name+": second value, near", samples(0, largest, 1, n), api.ErrOver)
		wantEncodeError(t, name+": last value", samples(0, 0, 1, 0, 2, n), api.ErrOver)
		wantEncodeError(t, name+": first time", samples(n, 0, 1, 1), api.ErrOver)
		wantEncodeError(t, name+": last time", samples(0, 0, 1, 0, n, 0), api.ErrOver)
	}
	most := regular(api.MaxSamples, 1, 0)
	most[api.MaxSamples-1].Value = largest + 1
	wantEncodeError(t, "the last of MaxSamples", most, api.ErrOver)
}

func TestEncodeOld(t *testing.T) {
	for _, l := range [][]api.Sample{
		samples(0, 0, 0, 0),
		samples(0, 0, 0, 1),
		samples(0, 0, -1, 0),
		samples(10, 5, 9, 5),
		samples(-10, 5, -11, 5),
		samples(5, 0, 6, 0, 6, 0),
		samples(5, 0, 7, 0, 6, 0),
		samples(5, 0, 7, 0, 5, 0),
		samples(5, 0, 7, 0, 4, 0),
		samples(5, 0, 5, 0, 6, 0),
		samples(largest, 0, largest, 0),
		samples(smallest, 0, smallest, 0),
		samples(largest, 0, smallest, 0),
	} {
		wantEncodeError(t, fmt.Sprint(l), l, api.ErrOld)
	}
	most := regular(api.MaxSamples, 1, 0)
	most[api.MaxSamples-1].Time--
	wantEncodeError(t, "the last of MaxSamples", most, api.ErrOld)
}

func TestEncodeErrorOrder(t *testing.T) {
	tooMany := regular(api.MaxSamples+1, 1, 0)
	tooMany[0].Value = largest + 1
	wantEncodeError(t, "size ahead of over", tooMany, api.ErrSize)
	wantEncodeError(t, "size ahead of old", make([]api.Sample, api.MaxSamples+1), api.ErrSize)
	wantEncodeError(t, "over ahead of old: time", samples(0, 0, smallest-1, 0), api.ErrOver)
	wantEncodeError(t, "over ahead of old: value", samples(0, 0, 0, largest+1), api.ErrOver)
	wantEncodeError(t, "the first sample decides: over", samples(0, largest+1, 0, 0), api.ErrOver)
	wantEncodeError(t, "the first wrong sample decides: old", samples(0, 0, 0, 0, 1, largest+1), api.ErrOld)
	wantEncodeError(t, "the first wrong sample decides: over", samples(0, 0, 1, largest+1, 1, 0), api.ErrOver)
	wantEncodeError(t, "old twice, over behind it", samples(3, 0, 2, 0, 1, smallest-1), api.ErrOld)
}

func TestDecodeNumberOfSamples(t *testing.T) {
	wantDecodeError(t, "nil", nil, api.ErrShort)
	wantDecodeError(t, "empty", []byte{}, api.ErrShort)
	for count := api.MaxSamples + 1; count < 256; count++ {
		name := fmt.Sprint("number of samples ", count)
		wantDecodeError(t, name+" alone", []byte{byte(count)}, api.ErrForm)
		wantDecodeError(t, name, chunkOf(count, joinCodes(numbersOf(regular(count, 1, 0))...)), api.ErrForm)
	}
	for count := 1; count <= api.MaxSamples; count++ {
		wantDecodeError(t, fmt.Sprint("no codes for ", count), []byte{byte(count)}, api.ErrShort)
	}
}

// Every beginning of an encoding ends within one of its codes.
func TestDecodeShort(t *testing.T) {
	for _, l := range [][]api.Sample{
		samples(0, 0),
		samples(10, 5),
		samples(smallest, largest, 0, 0, largest, smallest),
		samples(0, 0, 100, 40, 10000, 4000, 90000000, 50000000, 1<<50, 1<<50),
		widest(api.MaxSamples),
		mixedSamples(7, api.MaxSamples),
	} {
		b, _ := Encode(l)
		for n := range b {
			wantDecodeError(t, fmt.Sprintf("%d bytes of %d", n, len(b)), b[:n], api.ErrShort)
			wantDecodeError(t, fmt.Sprintf("%d bytes of %d, capacity cut", n, len(b)), b[:n:n], api.ErrShort)
		}
	}
	wantDecodeError(t, "no byte for the fifth sample", chunkOf(5, "00"+"10000010"+"00000"), api.ErrShort)
}

// Each code is put at the end of whole bytes, with some of its bits cut off: steps of 1 go ahead of it.
func TestDecodeShortWithinEachCode(t *testing.T) {
	for _, n := range sizes {
		digits := digitsOf(n)
		for cut := range len(digits) {
			for ahead := 10; ahead < 26; ahead++ {
				if (ahead+cut)%8 != 0 {
					continue
				}
				begin := "00" + "10000010" + strings.Repeat("0", ahead-10)
				count := 3 + (ahead-11)/2
				b := chunkOf(count, begin+digits[:cut])
				wantDecodeError(t, fmt.Sprintf("%d bits of the code of %d behind %d", cut, n, ahead), b, api.ErrShort)
			}
		}
	}
}

// Each number is put into every longer code, as a time and as a value.
func TestDecodeFormOfCodes(t *testing.T) {
	for _, n := range sizes {
		for i := range codes {
			long := digitsAs(i, n)
			if i == 0 || len(long) <= len(digitsOf(n)) {
				continue
			}
			name := fmt.Sprintf("%d with the prefix %s", n, codes[i].prefix)
			wantDecodeError(t, name+": first time", chunkOf(1, long+"0"), api.ErrForm)
			wantDecodeError(t, name+": first value", chunkOf(1, "0"+long), api.ErrForm)
			wantDecodeError(t, name+": second time", chunkOf(2, joinCodes(smallest, 3)+long+"0"), api.ErrForm)
			wantDecodeError(t, name+": second value", chunkOf(2, joinCodes(smallest, 3, 5)+long), api.ErrForm)
		}
	}
}

func TestDecodeOutOfRange(t *testing.T) {
	for _, n := range []int{smallest - 1, largest + 1, -1 << 57, 1 << 57, -1 << 58, 1<<58 - 1} {
		name := fmt.Sprint("out of range ", n)
		wantDecodeError(t, name+": time", chunkOf(1, joinCodes(n, 0)), api.ErrForm)
		wantDecodeError(t, name+": value", chunkOf(1, joinCodes(0, n)), api.ErrForm)
		wantDecodeError(t, name+": both", chunkOf(1, joinCodes(n, n)), api.ErrForm)
		wantDecodeError(t, name+": second time", chunkOf(2, joinCodes(0, 0, n, 0)), api.ErrForm)
		wantDecodeError(t, name+": second value", chunkOf(2, joinCodes(0, 0, 1, n)), api.ErrForm)
		wantDecodeError(t, name+": third time", chunkOf(3, joinCodes(-5, 0, 5, 0, n, 0)), api.ErrForm)
		wantDecodeError(t, name+": third value", chunkOf(3, joinCodes(-5, 0, 5, 0, 0, n)), api.ErrForm)
	}
	for _, numbers := range [][]int{
		{largest, 0, 1, 0},
		{smallest, 0, 1 << 56, 0},
		{0, largest, 1, 1},
		{0, smallest, 1, -1},
		{0, smallest, 1, 1 << 56},
		{0, largest, 1, -1 << 56},
		{largest - 1, 0, 1, 0, 0, 0},
		{smallest, 0, 1 << 55, 0, 0, 0},
		{0, largest - 1, 1, 1, 0, 1},
	} {
		wantDecodeError(t, fmt.Sprint(numbers), chunkOf(len(numbers)/2, joinCodes(numbers...)), api.ErrForm)
	}
}

func TestDecodeNotIncreasing(t *testing.T) {
	for _, numbers := range [][]int{
		{0, 0, 0, 0},
		{0, 0, -1, 0},
		{10, 5, 0, 1},
		{10, 5, -5, 1},
		{largest, 0, 0, 0},
		{largest, 0, smallest, 0},
		{0, 0, 5, 0, -5, 0},
		{0, 0, 5, 0, -6, 0},
		{0, 0, 5, 0, 0, 0, -5, 0},
		{0, 0, 5, 0, 1, 0, -7, 0},
		{largest - 1, 0, 1, 0, -1, 0},
		{0, 0, 1, 0, smallest, 0},
	} {
		wantDecodeError(t, fmt.Sprint(numbers), chunkOf(len(numbers)/2, joinCodes(numbers...)), api.ErrForm)
	}
}

func TestDecodeLeftOver(t *testing.T) {
	for _, l := range [][]api.Sample{
		nil, samples(0, 0), samples(10, 5), regular(3, 10, 0), regular(4, 10, 0), regular(4, 10, 5),
		samples(smallest, largest), widest(api.MaxSamples), mixedSamples(3, 50),
	} {
		digits := joinCodes(numbersOf(l)...)
		b := chunkOf(len(l), digits)
		name := fmt.Sprintf("%d samples", len(l))
		wantSamples(t, name, b, l)
		for _, rest := range [][]byte{{0}, {1}, {128}, {0, 0}, make([]byte, 40), make([]byte, 5000)} {
			wantDecodeError(t, fmt.Sprintf("%s, %d more bytes", name, len(rest)), slices.Concat(b, rest), api.ErrForm)
		}
		for zeros := 0; (len(digits)+zeros)%8 != 0; zeros++ {
			one := chunkOf(len(l), digits+strings.Repeat("0", zeros)+"1")
			wantDecodeError(t, fmt.Sprintf("%s, %d zeros and a 1", name, zeros), one, api.ErrForm)
		}
	}
}

func TestDecodeErrorOrder(t *testing.T) {
	over, long := digitsOf(largest+1), "10000000"
	wantDecodeError(t, "number ahead of short", []byte{121}, api.ErrForm)
	wantDecodeError(t, "form of the time ahead of short of the value", chunkOf(1, long), api.ErrForm)
	wantDecodeError(t, "short ahead of form within a code", chunkOf(1, "110"+"00000"), api.ErrShort)
	wantDecodeError(t, "the codes ahead of the range: short", chunkOf(1, over+"1"), api.ErrShort)
	wantDecodeError(t, "the codes ahead of the times: short", chunkOf(2, "00"+"10000001"+"110000"), api.ErrShort)
	wantDecodeError(t, "the range ahead of the next sample: time", chunkOf(2, over+"0"), api.ErrForm)
	wantDecodeError(t, "the range ahead of the next sample: value", chunkOf(2, "0"+over), api.ErrForm)
	wantDecodeError(t, "the times ahead of the next sample", chunkOf(3, "00"+"00"+"1111"), api.ErrForm)
	wantDecodeError(t, "a good sample, then short", chunkOf(2, "00"+"111111"), api.ErrShort)
	wantDecodeError(t, "a good sample, then form", chunkOf(3, "00"+long), api.ErrForm)
	wantDecodeError(t, "the last code is short", chunkOf(2, "00"+"10000010"+"110000"), api.ErrShort)
	wantDecodeError(t, "MaxSamples, wrong in the first", chunkOf(api.MaxSamples, over+"0"), api.ErrForm)
}

// All short lists of bytes, and changed encodings, agree with the second decoder.
func TestDecodeAgreesWithDigits(t *testing.T) {
	agree := func(b []byte) {
		want, wantCode := decodeDigits(b)
		l, code := Decode(b)
		if code != wantCode || !slices.Equal(l, want) {
			t.Fatalf("Decode(%v) = %v, %d, want %v, %d", b, l, code, want, wantCode)
		}
		if again, _ := Encode(l); code == api.OK && !slices.Equal(again, b) {
			t.Fatalf("Encode(%v) = %v, want %v", l, again, b)
		}
	}
	for first := range 256 {
		agree([]byte{byte(first)})
		for second := range 256 {
			agree([]byte{byte(first), byte(second)})
		}
	}
	for pair := range 1 << 16 {
		for count := range 5 {
			agree([]byte{byte(count), byte(pair >> 8), byte(pair)})
		}
	}
	for seed := range uint64(20) {
		b, _ := Encode(mixedSamples(seed, int(seed)+1))
		for i := range len(b) * 8 {
			changed := slices.Clone(b)
			changed[i/8] ^= 1 << (i % 8)
			agree(changed)
		}
	}
}

// The arguments stay as they are, including their spare capacity.
func TestArgumentsStay(t *testing.T) {
	l := samples(10, 5, 20, 5, 20, 6, 7, largest+1)
	lBefore := slices.Clone(l)
	b := []byte{4, 148, 138, 148, 8, 16, 77, 78}
	bBefore := slices.Clone(b)
	for n := range l {
		Encode(l[:n+1])
	}
	for n := range b {
		Decode(b[:n+1])
	}
	if !slices.Equal(l, lBefore) {
		t.Errorf("samples are %v, were %v", l, lBefore)
	}
	if !slices.Equal(b, bBefore) {
		t.Errorf("bytes are %v, were %v", b, bBefore)
	}
}

// Results share memory neither with the arguments nor with other results.
func TestResultsAreNew(t *testing.T) {
	l, b := samples(10, 5, 20, 5, 30, 5, 40, 4), []byte{4, 148, 138, 148, 8, 16}
	firstBytes, _ := Encode(l)
	otherBytes, _ := Encode(l)
	firstSamples, _ := Decode(b)
	otherSamples, _ := Decode(b)
	lBefore, bBefore := slices.Clone(l), slices.Clone(b)
	clear(l)
	clear(b)
	clear(otherBytes[:cap(otherBytes)])
	clear(otherSamples[:cap(otherSamples)])
	if !slices.Equal(firstBytes, bBefore) {
		t.Errorf("bytes became %v", firstBytes)
	}
	if !slices.Equal(firstSamples, lBefore) {
		t.Errorf("samples became %v", firstSamples)
	}
}
