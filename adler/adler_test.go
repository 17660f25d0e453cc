package adler

import (
	"fmt"
	"hash/adler32"
	"math"
	"math/big"
	"slices"
	"strings"
	"testing"

	"barograph/api"
)

const (
	largest    = 65520 // of s and of t
	largestSum = 65536*largest + largest
)

// edges: numbers s and t at and near the ends of their range, and one from the middle.
var edges = []int{0, 1, 2, 254, 255, 256, 40000, 65265, 65266, 65519, largest}

// counts: lengths of windows at and near the ends of their range, and near multiples of 65521.
var counts = []int{1, 2, 3, 255, 256, 65520, 65521, 65522, 131042, api.MaxCount - 1, api.MaxCount}

var someBytes = []byte{0, 1, 2, 127, 128, 254, 255}

// wrongSums are not 65536 * t + s for numbers s and t from 0 to 65520.
var wrongSums = []int{
	math.MinInt, math.MinInt + 1, -1 << 32, -largestSum, -65537, -65536, -65535, -2, -1,
	65521, 65522, 65534, 65535,
	65536 + 65521, 65536 + 65535, 65536*largest + 65521, 65536*largest + 65535,
	65536 * 65521, 65536*65521 + 1, 65536*65521 + largest, 65536 * 65535, 65536*65535 + largest,
	65536*65521 + 65521, 65536*65535 + 65535, 1<<32 - 1,
	1 << 32, 1<<32 + 1, 1<<32 + largest, 1<<32 + largestSum, 1 << 33, 1 << 48, 1 << 62, math.MaxInt - 1, math.MaxInt,
}

var wrongCounts = []int{0, -1, -2, -api.MaxCount, api.MaxCount + 1, 2 * api.MaxCount, 1 << 32, 1<<32 + 1,
	math.MinInt, math.MinInt + 1, math.MaxInt}

func wantOf(t *testing.T, name string, b []byte, want int) {
	t.Helper()
	if sum := Of(b); sum != want {
		t.Errorf("%s: Of = %d, want %d", name, sum, want)
	}
}

func wantMore(t *testing.T, name string, sum int, b []byte, want int) {
	t.Helper()
	if got, code := More(sum, b); got != want || code != api.OK {
		t.Errorf("%s: More(%d) = %d, %d, want %d, %d", name, sum, got, code, want, api.OK)
	}
}

func wantMoreError(t *testing.T, sum int, b []byte) {
	t.Helper()
	if got, code := More(sum, b); got != 0 || code != api.ErrRange {
		t.Errorf("More(%d) of %d bytes = %d, %d, want 0, %d", sum, len(b), got, code, api.ErrRange)
	}
}

func wantSlide(t *testing.T, sum, n int, out, in byte, want int) {
	t.Helper()
	if got, code := Slide(sum, n, out, in); got != want || code != api.OK {
		t.Errorf("Slide(%d, %d, %d, %d) = %d, %d, want %d, %d", sum, n, out, in, got, code, want, api.OK)
	}
}

func wantSlideError(t *testing.T, sum, n int, out, in byte) {
	t.Helper()
	if got, code := Slide(sum, n, out, in); got != 0 || code != api.ErrRange {
		t.Errorf("Slide(%d, %d, %d, %d) = %d, %d, want 0, %d", sum, n, out, in, got, code, api.ErrRange)
	}
}

// sumOf continues s and t without reducing them before the end, as a second way to the same result. The sums of
// the lists of these tests stay far below 2^63.
func sumOf(s, t int, b []byte) int {
	for _, c := range b {
		s += int(c)
		t += s
	}
	return 65536*(t%65521) + s%65521
}

// slideOf follows the document's formula without reducing before the end, with a remainder that is never negative.
func slideOf(s, t, n int, out, in byte) int {
	modulus := big.NewInt(65521)
	newS := big.NewInt(int64(s) - int64(out) + int64(in))
	newT := new(big.Int).Mul(big.NewInt(int64(n)), big.NewInt(int64(out)))
	newT.Sub(big.NewInt(int64(t)-1), newT)
	newT.Add(newT, newS)
	return int(65536*newT.Mod(newT, modulus).Int64() + newS.Mod(newS, modulus).Int64())
}

// mixedBytes follows a fixed rule, so that the bytes vary and the test stays repeatable.
func mixedBytes(seed uint64, count int) []byte {
	b := make([]byte, count)
	for i := range b {
		seed = seed*6364136223846793005 + 1442695040888963407
		b[i] = byte(seed >> 40)
	}
	return b
}

// P4.1: known checksums.
func TestOf(t *testing.T) {
	for _, c := range []struct {
		text string
		want int
	}{
		{"", 1},
		{"a", 0x00620062},
		{"abc", 0x024d0127},
		{"Wikipedia", 0x11e60398},
		{"message digest", 0x29750586},
		{"abcdefghijklmnopqrstuvwxyz", 0x90860b20},
		{"ABCDEFGHIJKLMNOPQRSTUVWXYZabcdefghijklmnopqrstuvwxyz0123456789", 0x8adb150c},
		{strings.Repeat("1234567890", 8), 0x97b61069},
		{strings.Repeat("a", 1000000), 0x15d870f9},
	} {
		wantOf(t, fmt.Sprintf("%.20q, %d bytes", c.text, len(c.text)), []byte(c.text), c.want)
	}
}

func TestOfEdges(t *testing.T) {
	wantOf(t, "nil", nil, 1)
	wantOf(t, "empty", []byte{}, 1)
	wantOf(t, "one 0", []byte{0}, 65536+1)
	wantOf(t, "one 255", []byte{255}, 65536*256+256)
	wantOf(t, "the order counts", []byte{1, 2}, 65536*(2+4)+4)
	wantOf(t, "the other order", []byte{2, 1}, 65536*(3+4)+4)
	zeros := make([]byte, 65522)
	wantOf(t, "t is 65520", zeros[:65520], 65536*65520+1)
	wantOf(t, "t is 0 again", zeros[:65521], 1)
	wantOf(t, "t is 1 again", zeros, 65536+1)
	ones := slices.Repeat([]byte{1}, 65521)
	if s := Of(ones[:65519]) % 65536; s != 65520 {
		t.Errorf("65519 ones: s = %d, want 65520", s)
	}
	if s := Of(ones[:65520]) % 65536; s != 0 {
		t.Errorf("65520 ones: s = %d, want 0", s)
	}
	if s := Of(ones) % 65536; s != 1 {
		t.Errorf("65521 ones: s = %d, want 1", s)
	}
}

// The checksums of short lists of bytes agree with those of the standard library and with unreduced sums.
func TestOfShortLists(t *testing.T) {
	agree := func(b []byte) {
		wantOf(t, fmt.Sprint(b), b, int(adler32.Checksum(b)))
		wantOf(t, fmt.Sprint(b, " unreduced"), b, sumOf(1, 0, b))
	}
	for first := range 256 {
		agree([]byte{byte(first)})
		for second := range 256 {
			agree([]byte{byte(first), byte(second)})
		}
	}
	for count := range 600 {
		agree(mixedBytes(uint64(count), count))
	}
}

// In these lists both sums pass 65521 several times.
func TestOfLongLists(t *testing.T) {
	for _, count := range []int{256, 257, 258, 5551, 5552, 5553, 65520, 65521, 65522, 200000, 1 << 20} {
		for name, b := range map[string][]byte{
			"zeros": make([]byte, count),
			"255s":  slices.Repeat([]byte{255}, count),
			"mixed": mixedBytes(uint64(count), count),
		} {
			name = fmt.Sprint(count, " ", name)
			wantOf(t, name, b, int(adler32.Checksum(b)))
			wantOf(t, name+" unreduced", b, sumOf(1, 0, b))
		}
	}
}

// P4.2: a checksum that is continued.
func TestMore(t *testing.T) {
	wantMore(t, "the document's example", Of([]byte("Wiki")), []byte("pedia"), Of([]byte("Wikipedia")))
	wantMore(t, "from the start", 1, []byte("Wikipedia"), 300286872)
	wantMore(t, "from 0", 0, []byte("abc"), 65536*(97+195+294)+294)
	wantMore(t, "a byte 0 adds s to t", 65536*7+5, []byte{0}, 65536*12+5)
	wantMore(t, "s passes 65521", largest, []byte{1}, 0)
	wantMore(t, "s stays at 65520", largest, []byte{0}, largestSum)
	wantMore(t, "t passes 65521", 65536*largest+1, []byte{0}, 1)
	wantMore(t, "both pass 65521", largestSum, []byte{255}, 65536*253+254)
	wantMore(t, "both are 65520 and the byte is 0", largestSum, []byte{0}, 65536*65519+65520)
}

func TestMoreEdges(t *testing.T) {
	for _, s := range edges {
		for _, high := range edges {
			sum := 65536*high + s
			wantMore(t, "nil", sum, nil, sum)
			wantMore(t, "empty", sum, []byte{}, sum)
			for _, c := range someBytes {
				wantMore(t, fmt.Sprint("one byte ", c), sum, []byte{c}, sumOf(s, high, []byte{c}))
			}
			b := mixedBytes(uint64(sum), 700)
			wantMore(t, "mixed bytes", sum, b, sumOf(s, high, b))
			b = slices.Repeat([]byte{255}, 700)
			wantMore(t, "700 bytes of 255", sum, b, sumOf(s, high, b))
		}
	}
}

// The checksum of each beginning, continued with the rest, is that of the whole.
func TestMoreBehindEachBeginning(t *testing.T) {
	for _, b := range [][]byte{
		[]byte("Wikipedia"),
		make([]byte, 300),
		slices.Repeat([]byte{255}, 1000),
		mixedBytes(1, 2000),
	} {
		for n := range len(b) + 1 {
			wantMore(t, fmt.Sprintf("%d bytes of %d", n, len(b)), Of(b[:n]), b[n:], Of(b))
		}
	}
}

// The checksum is continued with parts of a given length, each time from the one before.
func TestMorePartByPart(t *testing.T) {
	b := mixedBytes(2, 200000)
	for _, length := range []int{1, 2, 7, 255, 256, 5552, 65521, 199999, 200000} {
		sum := Of(nil)
		second := adler32.New()
		for part := range slices.Chunk(b, length) {
			second.Write(part)
			next, code := More(sum, part)
			if want := int(second.Sum32()); code != api.OK || next != want {
				t.Fatalf("parts of %d: More(%d) = %d, %d, want %d, %d", length, sum, next, code, want, api.OK)
			}
			sum = next
		}
		wantOf(t, fmt.Sprint("parts of ", length), b, sum)
	}
}

func TestMoreErrors(t *testing.T) {
	for _, sum := range wrongSums {
		wantMoreError(t, sum, nil)
		wantMoreError(t, sum, []byte{0})
		wantMoreError(t, sum, []byte("abc"))
	}
}

// Every s, and every t, of 16 bits: the first 65521 are valid.
func TestEverySAndT(t *testing.T) {
	for n := range 65536 {
		for _, sum := range []int{n, 65536*largest + n, 65536 * n, 65536*n + largest} {
			if n <= largest {
				wantMore(t, "no bytes", sum, nil, sum)
				wantSlide(t, sum, 1, 0, 0, slideOf(sum%65536, sum/65536, 1, 0, 0))
			} else {
				wantMoreError(t, sum, nil)
				wantSlideError(t, sum, 1, 0, 0)
			}
		}
	}
}

// P4.2: a window that moves.
func TestSlide(t *testing.T) {
	wantSlide(t, Of([]byte{1, 2}), 2, 1, 3, Of([]byte{2, 3}))
	wantSlide(t, Of([]byte("Wiki")), 4, 'W', 'p', Of([]byte("ikip")))
	wantSlide(t, Of([]byte{7}), 1, 7, 9, Of([]byte{9}))
	wantSlide(t, Of([]byte{7, 7, 7}), 3, 7, 7, Of([]byte{7, 7, 7}))
}

// The sums need not be those of a window.
func TestSlideOfAnySum(t *testing.T) {
	wantSlide(t, 0, 1, 0, 0, 65536*65520)
	wantSlide(t, 1, 1, 0, 0, 1)
	wantSlide(t, 0, 1, 255, 0, 65536*65010+65266)
	wantSlide(t, 0, 1, 0, 255, 65536*254+255)
	wantSlide(t, 0, 1, 255, 255, 65536*65265)
	wantSlide(t, 0, api.MaxCount, 255, 0, 65536*4065+65266)
	wantSlide(t, 0, api.MaxCount, 0, 255, 65536*254+255)
	wantSlide(t, largestSum, 1, 0, 0, 65536*65518+65520)
	wantSlide(t, largestSum, 1, 0, 255, 65536*252+254)
	wantSlide(t, largestSum, 1, 255, 0, 65536*65008+65265)
	wantSlide(t, largest, 1, 0, 1, 65536*65520)
	wantSlide(t, 65536*largest, 1, 0, 0, 65536*65519)
	for _, s := range edges {
		for _, high := range edges {
			for _, n := range counts {
				for _, out := range someBytes {
					for _, in := range someBytes {
						wantSlide(t, 65536*high+s, n, out, in, slideOf(s, high, n, out, in))
					}
				}
			}
		}
	}
}

// Every byte that leaves, with every byte that enters, at the ends of the range of n.
func TestSlideEveryPairOfBytes(t *testing.T) {
	for out := range 256 {
		for in := range 256 {
			o, i := byte(out), byte(in)
			wantSlide(t, Of([]byte{o}), 1, o, i, Of([]byte{i}))
			wantSlide(t, Of([]byte{o, i, o}), 3, o, i, Of([]byte{i, o, i}))
			wantSlide(t, 12345, api.MaxCount, o, i, slideOf(12345, 0, api.MaxCount, o, i))
		}
	}
}

// The window is moved byte by byte, each time from the checksum before, and compared with a new computation.
func TestSlideWindowByWindow(t *testing.T) {
	for _, b := range [][]byte{
		mixedBytes(3, 1500),
		slices.Concat(make([]byte, 700), slices.Repeat([]byte{255}, 700), make([]byte, 100)),
		[]byte(strings.Repeat("Wikipedia", 170)),
	} {
		for _, n := range []int{1, 2, 3, 10, 255, 256, 257, 512, 1499} {
			sum := Of(b[:n])
			for at := n; at < len(b); at++ {
				window := b[at-n+1 : at+1]
				next, code := Slide(sum, n, b[at-n], b[at])
				if want := Of(window); code != api.OK || next != want {
					t.Fatalf("window of %d at %d: %d, %d, want %d, %d", n, at-n+1, next, code, want, api.OK)
				}
				sum = next
			}
		}
	}
}

// Windows of so many bytes that n * out passes 65521 by far, up to the longest one.
func TestSlideLongWindows(t *testing.T) {
	for _, n := range []int{65520, 65521, 65522, api.MaxCount - 1, api.MaxCount} {
		for _, b := range [][]byte{
			mixedBytes(4, n+3),
			append(slices.Repeat([]byte{255}, n), 0, 0, 0),
			append(make([]byte, n), 255, 255, 255),
			slices.Repeat([]byte{255}, n+3),
		} {
			sum := Of(b[:n])
			for at := range 3 {
				want := int(adler32.Checksum(b[at+1 : at+1+n]))
				wantSlide(t, sum, n, b[at], b[at+n], want)
				sum = want
			}
		}
	}
}

func TestSlideErrors(t *testing.T) {
	for _, sum := range wrongSums {
		for _, n := range counts {
			wantSlideError(t, sum, n, 0, 0)
			wantSlideError(t, sum, n, 255, 255)
		}
		for _, n := range wrongCounts {
			wantSlideError(t, sum, n, 1, 2)
		}
	}
	for _, n := range wrongCounts {
		for _, sum := range []int{0, 1, largest, 65536, 300286872, 65536 * largest, largestSum} {
			wantSlideError(t, sum, n, 0, 0)
			wantSlideError(t, sum, n, 255, 255)
		}
	}
}

// The arguments stay as they are, including their spare capacity.
func TestArgumentsStay(t *testing.T) {
	b := mixedBytes(5, 40)
	before := slices.Clone(b)
	for n := range b {
		Of(b[:n])
		More(largestSum, b[:n])
		More(-1, b[:n])
	}
	if !slices.Equal(b, before) {
		t.Errorf("bytes are %v, were %v", b, before)
	}
}

// A result depends on the arguments of its call only.
func TestCallsAreIndependent(t *testing.T) {
	b := mixedBytes(6, 1000)
	sum := Of(b)
	more, _ := More(sum, b)
	slid, _ := Slide(sum, 1000, b[0], 77)
	More(-1, b)
	Slide(0, 0, 1, 1)
	clear(b[1:])
	Of(b)
	b = mixedBytes(6, 1000)
	wantOf(t, "once more", b, sum)
	wantMore(t, "once more", sum, b, more)
	wantSlide(t, sum, 1000, b[0], 77, slid)
}
