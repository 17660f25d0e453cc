package file

import (
	"bytes"
	"encoding/binary"
	"fmt"
	"hash/adler32"
	"slices"
	"strings"
	"testing"

	"barograph/api"
)

// raw puts a record together whose length and checksum need not fit its body.
func raw(length int, sum uint32, rest []byte) []byte {
	b := binary.BigEndian.AppendUint16(nil, uint16(length))
	b = binary.BigEndian.AppendUint32(b, sum)
	return append(b, rest...)
}

// recordOf uses the standard library, as a second way to the same result.
func recordOf(body []byte) []byte {
	return raw(len(body), adler32.Checksum(body), body)
}

func fileOf(bodies ...[]byte) []byte {
	var b []byte
	for _, body := range bodies {
		b = append(b, recordOf(body)...)
	}
	return b
}

// mixedBytes follows a fixed rule, so that the bytes vary and the test stays repeatable.
func mixedBytes(seed uint64, count int) []byte {
	b := make([]byte, count)
	for i := range b {
		seed = seed*6364136223846793005 + 1442695040888963407
		b[i] = byte(seed >> 40)
	}
	return b
}

// mixedBodies have the given lengths.
func mixedBodies(lengths ...int) [][]byte {
	var l [][]byte
	for i, n := range lengths {
		l = append(l, mixedBytes(uint64(i+1), n))
	}
	return l
}

// manyBodies are short, and their lengths vary.
func manyBodies(count int) [][]byte {
	var l [][]byte
	for i := range count {
		l = append(l, mixedBytes(uint64(i), i%7))
	}
	return l
}

// opened follows the document's sentences one by one, as a second way to the result of Open.
func opened(file []byte) ([][]byte, int, api.Errno) {
	var bodies [][]byte
	at := 0
	for len(bodies) < api.MaxRecords {
		rest := file[at:]
		if len(rest) < 6 {
			break
		}
		length := int(binary.BigEndian.Uint16(rest))
		if length > api.MaxBytes || len(rest) < 6+length || !bytes.Equal(rest[:6+length], recordOf(rest[6:6+length])) {
			break
		}
		bodies = append(bodies, rest[6:6+length])
		at += 6 + length
	}
	rest := file[at:]
	length := 0
	if len(rest) >= 6 {
		length = int(binary.BigEndian.Uint16(rest))
	}
	switch {
	case len(rest) == 0:
		return bodies, at, api.OK
	case len(bodies) == api.MaxRecords:
		return bodies, at, api.ErrFull
	case len(rest) < 6, length <= api.MaxBytes && len(rest) < 6+length:
		return bodies, at, api.ErrShort
	case length > api.MaxBytes:
		return bodies, at, api.ErrSize
	}
	return bodies, at, api.ErrSum
}

// brief keeps messages about long files short.
func brief(bodies [][]byte) string {
	return fmt.Sprintf("%d bodies %.200s", len(bodies), fmt.Sprint(bodies))
}

func wantRecord(t *testing.T, name string, b, want []byte) {
	t.Helper()
	got, code := Record(b)
	if code != api.OK || !bytes.Equal(got, want) {
		t.Errorf("%s: Record = %.300s, %d, want %.300s, %d", name, fmt.Sprint(got), code, fmt.Sprint(want), api.OK)
	}
}

func wantOpen(t *testing.T, name string, file []byte, bodies [][]byte, length int, want api.Errno) {
	t.Helper()
	got, n, code := Open(file)
	if code != want || n != length || !slices.EqualFunc(got, bodies, bytes.Equal) {
		t.Errorf("%s: Open = %s, %d, %d, want %s, %d, %d", name, brief(got), n, code, brief(bodies), length, want)
	}
}

// wantBehind opens a file of the given bodies with more bytes behind them, none of which form a record.
func wantBehind(t *testing.T, name string, bodies [][]byte, behind []byte, want api.Errno) {
	t.Helper()
	start := fileOf(bodies...)
	wantOpen(t, name, slices.Concat(start, behind), bodies, len(start), want)
}

// starts are bodies of records ahead of what a test is about.
func starts() [][][]byte {
	return [][][]byte{
		nil,
		{nil},
		{[]byte("Wikipedia")},
		mixedBodies(3, 0, 300, 1),
		{mixedBytes(1, api.MaxBytes)},
		manyBodies(api.MaxRecords - 1),
	}
}

// P6.1: known records.
func TestRecord(t *testing.T) {
	wantRecord(t, "the document's example", nil, []byte{0, 0, 0, 0, 0, 1})
	wantRecord(t, "empty", []byte{}, []byte{0, 0, 0, 0, 0, 1})
	wantRecord(t, "one 0", []byte{0}, []byte{0, 1, 0, 1, 0, 1, 0})
	wantRecord(t, "one 255", []byte{255}, []byte{0, 1, 1, 0, 1, 0, 255})
	wantRecord(t, "the order counts", []byte{1, 2}, []byte{0, 2, 0, 6, 0, 4, 1, 2})
	wantRecord(t, "the other order", []byte{2, 1}, []byte{0, 2, 0, 7, 0, 4, 2, 1})
	wantRecord(t, "a word", []byte("Wikipedia"), append([]byte{0, 9, 0x11, 0xe6, 0x03, 0x98}, "Wikipedia"...))
	wantRecord(t, "a record", []byte{0, 0, 0, 0, 0, 1}, []byte{0, 6, 0, 7, 0, 2, 0, 0, 0, 0, 0, 1})
}

func TestRecordLengthOfTwoBytes(t *testing.T) {
	for length, want := range map[int][]byte{
		255: {0, 255}, 256: {1, 0}, 257: {1, 1}, 300: {1, 44}, 511: {1, 255}, 512: {2, 0},
		1000: {3, 232}, 3999: {15, 159}, api.MaxBytes: {15, 160},
	} {
		record, code := Record(make([]byte, length))
		if code != api.OK || len(record) != 6+length || !bytes.Equal(record[:2], want) {
			t.Errorf("%d bytes: Record has %d bytes, code %d, want %d bytes that start with %v", length, len(record), code, 6+length, want)
		}
	}
}

// largeSums are bodies with their checksums, whose first bytes are above 127.
var largeSums = []struct {
	body []byte
	sum  []byte
}{
	{[]byte("abcdefghijklmnopqrstuvwxyz"), []byte{0x90, 0x86, 0x0b, 0x20}},
	{[]byte("ABCDEFGHIJKLMNOPQRSTUVWXYZabcdefghijklmnopqrstuvwxyz0123456789"), []byte{0x8a, 0xdb, 0x15, 0x0c}},
	{[]byte(strings.Repeat("1234567890", 8)), []byte{0x97, 0xb6, 0x10, 0x69}},
	{slices.Repeat([]byte{255}, 129), []byte{0xa2, 0xa0, 0x80, 0x80}},
	{slices.Repeat([]byte{255}, 388), []byte{0xb5, 0xe5, 0x82, 0x8c}},
	{slices.Repeat([]byte{255}, 4000), []byte{0xe6, 0x8a, 0x91, 0x42}},
}

func TestChecksumsAbove127(t *testing.T) {
	for _, c := range largeSums {
		name := fmt.Sprintf("%d bytes that start with %d", len(c.body), c.body[0])
		record, code := Record(c.body)
		if code != api.OK || !bytes.Equal(record[2:6], c.sum) {
			t.Errorf("%s: the checksum is %v, code %d, want %v, %d", name, record[2:6], code, c.sum, api.OK)
			continue
		}
		wantOpen(t, name, record, [][]byte{c.body}, len(record), api.OK)
		for at := 2; at < 6; at++ {
			broken := slices.Clone(record)
			broken[at] ^= 128
			wantOpen(t, fmt.Sprint(name, " with another sign at ", at), broken, nil, 0, api.ErrSum)
		}
	}
}

// Every length of a body, in three fillings, written and read.
func TestEveryLength(t *testing.T) {
	for length := range api.MaxBytes + 1 {
		for name, body := range map[string][]byte{
			"zeros": make([]byte, length),
			"255s":  slices.Repeat([]byte{255}, length),
			"mixed": mixedBytes(uint64(length), length),
		} {
			name = fmt.Sprint(length, " ", name)
			wantRecord(t, name, body, recordOf(body))
			wantOpen(t, name, recordOf(body), [][]byte{body}, 6+length, api.OK)
		}
	}
}

func TestRecordSize(t *testing.T) {
	for _, length := range []int{4001, 4002, 5000, 65535, 65536, 65537, 65536 + api.MaxBytes, 1 << 20} {
		for _, filling := range []byte{0, 1, 255} {
			record, code := Record(slices.Repeat([]byte{filling}, length))
			if code != api.ErrSize || len(record) != 0 {
				t.Errorf("%d bytes: Record has %d bytes, code %d, want none and %d", length, len(record), code, api.ErrSize)
			}
		}
	}
}

// P6.2: whole files.
func TestOpen(t *testing.T) {
	wantOpen(t, "nil", nil, nil, 0, api.OK)
	wantOpen(t, "no bytes", []byte{}, nil, 0, api.OK)
	wantOpen(t, "the document's example", make([]byte, 5), nil, 0, api.ErrShort)
	wantOpen(t, "a body of no bytes", []byte{0, 0, 0, 0, 0, 1}, [][]byte{nil}, 6, api.OK)
	wantOpen(t, "two of them", []byte{0, 0, 0, 0, 0, 1, 0, 0, 0, 0, 0, 1}, [][]byte{nil, nil}, 12, api.OK)
	wantOpen(t, "one byte", []byte{0, 1, 1, 0, 1, 0, 255}, [][]byte{{255}}, 7, api.OK)
	wantOpen(t, "different lengths", []byte{0, 2, 0, 6, 0, 4, 1, 2, 0, 0, 0, 0, 0, 1, 0, 1, 0, 1, 0, 1, 0},
		[][]byte{{1, 2}, nil, {0}}, 21, api.OK)
	wantOpen(t, "six zero bytes", make([]byte, 6), nil, 0, api.ErrSum)
}

func TestOpenWhatRecordReturns(t *testing.T) {
	for _, bodies := range [][][]byte{
		mixedBodies(0),
		mixedBodies(1, 2, 3),
		mixedBodies(9, 0, 0, 300, 1),
		mixedBodies(255, 256, 257, 511, 512, 513),
		mixedBodies(api.MaxBytes, 0, api.MaxBytes, api.MaxBytes-1),
		manyBodies(api.MaxRecords),
	} {
		var written []byte
		for _, body := range bodies {
			record, _ := Record(body)
			written = append(written, record...)
		}
		wantOpen(t, fmt.Sprint(len(bodies), " records"), written, bodies, len(written), api.OK)
	}
}

func TestOpenTwoFiles(t *testing.T) {
	for _, a := range starts() {
		for _, b := range starts() {
			if len(a)+len(b) > api.MaxRecords {
				continue
			}
			both := slices.Concat(fileOf(a...), fileOf(b...))
			wantOpen(t, fmt.Sprint(len(a), " and ", len(b), " records"), both, slices.Concat(a, b), len(both), api.OK)
		}
	}
}

// A body that is itself a file is one body.
func TestOpenBodiesThatAreFiles(t *testing.T) {
	inner := fileOf(mixedBodies(4, 0, 30)...)
	bodies := [][]byte{inner, nil, fileOf(inner), inner[:5]}
	whole := fileOf(bodies...)
	wantOpen(t, "files within a file", whole, bodies, len(whole), api.OK)
}

func TestOpenMaxRecords(t *testing.T) {
	for name, bodies := range map[string][][]byte{
		"no bytes": make([][]byte, api.MaxRecords),
		"short":    manyBodies(api.MaxRecords),
		"longest":  slices.Repeat([][]byte{mixedBytes(7, api.MaxBytes)}, api.MaxRecords),
	} {
		for _, count := range []int{api.MaxRecords - 2, api.MaxRecords - 1, api.MaxRecords} {
			whole := fileOf(bodies[:count]...)
			wantOpen(t, fmt.Sprint(count, " ", name), whole, bodies[:count], len(whole), api.OK)
		}
	}
}

// P6.2: exactly the complete records of a file that was truncated at any point are returned.
func TestOpenTruncated(t *testing.T) {
	for _, bodies := range [][][]byte{
		{nil},
		{[]byte("Wikipedia"), nil},
		mixedBodies(0, 0, 5, 1, 0),
		mixedBodies(300, 255, 256, 7),
		mixedBodies(2, api.MaxBytes, 3),
		{make([]byte, 40), slices.Repeat([]byte{255}, 700)},
		manyBodies(api.MaxRecords),
	} {
		whole := fileOf(bodies...)
		complete, length := 0, 0
		for n := range len(whole) + 1 {
			if complete < len(bodies) && n == length+6+len(bodies[complete]) {
				length = n
				complete++
			}
			want := api.ErrShort
			if n == length {
				want = api.OK
			}
			wantOpen(t, fmt.Sprintf("%d of %d bytes", n, len(whole)), whole[:n], bodies[:complete], length, want)
			wantOpen(t, fmt.Sprintf("%d of %d bytes, copied", n, len(whole)), slices.Clone(whole[:n]), bodies[:complete], length, want)
		}
	}
}

// Fewer than 6 bytes are too short, whatever they are.
func TestOpenShortHead(t *testing.T) {
	for _, bodies := range starts() {
		for n := 1; n < 6; n++ {
			for _, behind := range [][]byte{
				make([]byte, n),
				slices.Repeat([]byte{255}, n),
				raw(api.MaxBytes+1, 1, nil)[:n],
				raw(api.MaxBytes, 1, nil)[:n],
				recordOf(nil)[:n],
				recordOf([]byte("Wikipedia"))[:n],
			} {
				wantBehind(t, fmt.Sprint(len(bodies), " records and ", behind), bodies, behind, api.ErrShort)
			}
		}
	}
}

// The length is larger than what follows, whether the checksum fits these bytes or not.
func TestOpenShortBody(t *testing.T) {
	for _, bodies := range starts() {
		for _, length := range []int{1, 2, 9, 255, 256, 257, 3999, api.MaxBytes} {
			for _, there := range []int{0, 1, length / 2, length - 1} {
				if there >= length {
					continue
				}
				body := mixedBytes(uint64(length), length)
				name := fmt.Sprintf("%d records and %d bytes of %d", len(bodies), there, length)
				wantBehind(t, name, bodies, recordOf(body)[:6+there], api.ErrShort)
				wantBehind(t, name+", the checksum fits", bodies, raw(length, adler32.Checksum(body[:there]), body[:there]), api.ErrShort)
				wantBehind(t, name+", the checksum is 0", bodies, raw(length, 0, body[:there]), api.ErrShort)
			}
		}
	}
}

// Lengths above MaxBytes, with few and with enough bytes behind them, and with right and with wrong checksums.
func TestOpenSize(t *testing.T) {
	for _, bodies := range starts() {
		for _, length := range []int{api.MaxBytes + 1, api.MaxBytes + 2, 4095, 4096, 8000, 32767, 32768, 65280, 65534, 65535} {
			for _, there := range []int{0, 1, 9, api.MaxBytes, length - 1, length, length + 1, length + 100} {
				rest := mixedBytes(uint64(length), there)
				name := fmt.Sprintf("%d records and the length %d, %d bytes", len(bodies), length, there)
				wantBehind(t, name, bodies, raw(length, 0, rest), api.ErrSize)
				wantBehind(t, name+", the checksum fits", bodies, raw(length, adler32.Checksum(rest[:min(there, length)]), rest), api.ErrSize)
			}
		}
	}
}

// The largest valid length beside the smallest invalid one.
func TestOpenAtMaxBytes(t *testing.T) {
	body := mixedBytes(3, api.MaxBytes+1)
	wantOpen(t, "MaxBytes", recordOf(body[:api.MaxBytes]), [][]byte{body[:api.MaxBytes]}, 6+api.MaxBytes, api.OK)
	wantOpen(t, "MaxBytes + 1", recordOf(body), nil, 0, api.ErrSize)
	wantOpen(t, "MaxBytes, one byte is missing", recordOf(body[:api.MaxBytes])[:5+api.MaxBytes], nil, 0, api.ErrShort)
	wantOpen(t, "MaxBytes + 1, one byte is missing", recordOf(body)[:6+api.MaxBytes], nil, 0, api.ErrSize)
}

func TestOpenSum(t *testing.T) {
	for _, bodies := range starts() {
		for _, body := range mixedBodies(0, 1, 9, 300, api.MaxBytes) {
			sum := adler32.Checksum(body)
			for _, wrong := range []uint32{0, sum + 1, sum - 1, sum + 65536, sum - 65536, sum ^ 1<<31, ^sum, 1<<32 - 1} {
				name := fmt.Sprintf("%d records and %d bytes, %d instead of %d", len(bodies), len(body), wrong, sum)
				wantBehind(t, name, bodies, raw(len(body), wrong, body), api.ErrSum)
				wantBehind(t, name+", a record behind", bodies, append(raw(len(body), wrong, body), recordOf(nil)...), api.ErrSum)
			}
		}
	}
}

// A checksum is compared as a whole: both halves modulo 65521 are not enough.
func TestOpenSumThatIsNotReduced(t *testing.T) {
	wantOpen(t, "s is 65521 + 1", []byte{0, 0, 0, 0, 0xff, 0xf2}, nil, 0, api.ErrSum)
	wantOpen(t, "t is 65521", []byte{0, 0, 0xff, 0xf1, 0, 1}, nil, 0, api.ErrSum)
	wantOpen(t, "both", []byte{0, 1, 0xff, 0xf2, 0xff, 0xf2, 0}, nil, 0, api.ErrSum)
	wantOpen(t, "neither", []byte{0, 1, 0, 1, 0, 1, 0}, [][]byte{{0}}, 7, api.OK)
}

// Each byte of the middle one of three records gets each other value.
func TestOpenEachByteChanged(t *testing.T) {
	first, last := []byte("first"), []byte("last")
	for _, body := range [][]byte{nil, {0}, []byte("Wikipedia"), mixedBytes(4, 40), make([]byte, 300)} {
		record := recordOf(body)
		start := recordOf(first)
		for at := range record {
			for change := 1; change < 256; change++ {
				broken := slices.Clone(record)
				broken[at] ^= byte(change)
				file := slices.Concat(start, broken, recordOf(last))
				_, _, want := opened(file)
				if at >= 2 && want != api.ErrSum || want == api.OK {
					t.Fatalf("byte %d of %v changed by %d: the test expects %d", at, record, change, want)
				}
				wantOpen(t, fmt.Sprintf("byte %d of %d changed by %d", at, len(record), change), file, [][]byte{first}, len(start), want)
			}
		}
	}
}

// Nothing behind a broken record is read, and what is ahead of it is returned.
func TestOpenEachRecordBroken(t *testing.T) {
	bodies := mixedBodies(3, 0, 20, 300, 1, 7)
	for i := range bodies {
		start := fileOf(bodies[:i]...)
		broken := fileOf(bodies...)
		broken[len(start)+5]++
		wantOpen(t, fmt.Sprint("record ", i), broken, bodies[:i], len(start), api.ErrSum)
		binary.BigEndian.PutUint16(broken[len(start):], api.MaxBytes)
		wantOpen(t, fmt.Sprint("record ", i, " is short"), broken, bodies[:i], len(start), api.ErrShort)
		binary.BigEndian.PutUint16(broken[len(start):], api.MaxBytes+1)
		wantOpen(t, fmt.Sprint("record ", i, " is too long"), broken, bodies[:i], len(start), api.ErrSize)
	}
}

// A length that is too small leaves bytes that are read as the next record.
func TestOpenLengthTooSmall(t *testing.T) {
	inner := append([]byte("abc"), recordOf([]byte("d"))...)
	file := raw(3, adler32.Checksum([]byte("abc")), inner)
	wantOpen(t, "a record within the body", file, [][]byte{[]byte("abc"), []byte("d")}, len(file), api.OK)
	file = raw(3, adler32.Checksum([]byte("abc")), []byte("abcd"))
	wantOpen(t, "one byte left", file, [][]byte{[]byte("abc")}, 9, api.ErrShort)
	file = raw(3, adler32.Checksum([]byte("abcd")), []byte("abcd"))
	wantOpen(t, "the checksum of one byte more", file, nil, 0, api.ErrSum)
}

// Behind MaxRecords records any byte is too many, whether it belongs to a record or not.
func TestOpenFull(t *testing.T) {
	for name, bodies := range map[string][][]byte{
		"no bytes": make([][]byte, api.MaxRecords),
		"short":    manyBodies(api.MaxRecords),
		"longest":  slices.Repeat([][]byte{mixedBytes(8, api.MaxBytes)}, api.MaxRecords),
	} {
		for more, behind := range map[string][]byte{
			"one byte":           {0},
			"one byte of 255":    {255},
			"five bytes":         make([]byte, 5),
			"one more record":    recordOf([]byte("Wikipedia")),
			"an empty record":    recordOf(nil),
			"two more records":   fileOf(nil, []byte("Wikipedia")),
			"many more records":  fileOf(manyBodies(api.MaxRecords + 1)...),
			"a short record":     recordOf([]byte("Wikipedia"))[:10],
			"a length too large": raw(api.MaxBytes+1, 1, nil),
			"the length 65535":   slices.Repeat([]byte{255}, 70000),
			"a wrong checksum":   make([]byte, 6),
		} {
			wantBehind(t, name+" and "+more, bodies, behind, api.ErrFull)
		}
	}
}

// With one record less there is room for one more.
func TestOpenAlmostFull(t *testing.T) {
	bodies := manyBodies(api.MaxRecords - 1)
	word := []byte("Wikipedia")
	start := fileOf(append(slices.Clone(bodies), word)...)
	wantOpen(t, "one more record", start, append(slices.Clone(bodies), word), len(start), api.OK)
	wantOpen(t, "two more records", append(slices.Clone(start), recordOf(nil)...), append(slices.Clone(bodies), word), len(start), api.ErrFull)
	wantBehind(t, "one byte", bodies, []byte{0}, api.ErrShort)
	wantBehind(t, "a short record", bodies, recordOf(word)[:10], api.ErrShort)
	wantBehind(t, "a length too large", bodies, raw(api.MaxBytes+1, 1, nil), api.ErrSize)
	wantBehind(t, "a wrong checksum", bodies, make([]byte, 6), api.ErrSum)
}

// Where several codes apply, the first one is returned.
func TestOpenCodeOrder(t *testing.T) {
	full := manyBodies(api.MaxRecords)
	wantBehind(t, "full and short", full, []byte{15}, api.ErrFull)
	wantBehind(t, "full, short and the start of a length too large", full, []byte{255, 255, 0, 0, 0}, api.ErrFull)
	wantBehind(t, "full and too large", full, []byte{255, 255, 0, 0, 0, 0}, api.ErrFull)
	wantBehind(t, "full and a wrong checksum", full, []byte{0, 0, 0, 0, 0, 0}, api.ErrFull)
	wantBehind(t, "short and the start of a length too large", nil, []byte{255, 255, 0, 0, 0}, api.ErrShort)
	wantBehind(t, "short and the whole of a length too large", nil, []byte{15, 161}, api.ErrShort)
	wantBehind(t, "short and a wrong checksum", nil, []byte{0, 1, 0, 0, 0, 0}, api.ErrShort)
	wantBehind(t, "too large, and fewer bytes than the length", nil, []byte{15, 161, 0, 0, 0, 1}, api.ErrSize)
	wantBehind(t, "too large and a wrong checksum", nil, append([]byte{15, 161, 0, 0, 0, 0}, make([]byte, 4001)...), api.ErrSize)
}

// Every length of two bytes, with no body, with MaxBytes bytes and with more than any length.
func TestOpenEveryLengthOfTwoBytes(t *testing.T) {
	file := raw(0, 2, make([]byte, 70000))
	for length := range 65536 {
		binary.BigEndian.PutUint16(file, uint16(length))
		for _, there := range []int{0, api.MaxBytes, len(file) - 6} {
			want := api.ErrSum
			if length > api.MaxBytes {
				want = api.ErrSize
			} else if length > there {
				want = api.ErrShort
			}
			wantOpen(t, fmt.Sprintf("the length %d, %d bytes", length, there), file[:6+there], nil, 0, want)
		}
	}
}

// Files of mixed records, some of which are broken, agree with the document's sentences.
func TestOpenMixedFiles(t *testing.T) {
	seen := map[api.Errno]int{}
	for seed := range 3000 {
		choices := mixedBytes(uint64(seed), 20)
		var bodies [][]byte
		for i := range int(choices[0])%9 + 195*(int(choices[1])%2) {
			bodies = append(bodies, mixedBytes(uint64(i), int(choices[2+i%9])%(1+i*3)))
		}
		file := fileOf(bodies...)
		if choices[12]%2 == 0 {
			file = append(file, mixedBytes(uint64(seed), int(choices[13])%40)...)
		}
		if choices[14]%2 == 0 && len(file) > 0 {
			at := (int(choices[15])*256 + int(choices[16])) % len(file)
			file[at] ^= choices[17]
		}
		if choices[18]%4 == 0 {
			file = file[:len(file)*int(choices[19])/256]
		}
		want, length, code := opened(file)
		seen[code]++
		wantOpen(t, fmt.Sprint("seed ", seed), file, want, length, code)
	}
	for _, code := range []api.Errno{api.OK, api.ErrFull, api.ErrShort, api.ErrSize, api.ErrSum} {
		if seen[code] == 0 {
			t.Errorf("no file has the code %d", code)
		}
	}
}

// The arguments stay as they are, including their spare capacity.
func TestArgumentsStay(t *testing.T) {
	body := mixedBytes(5, api.MaxBytes+20)
	bodyBefore := slices.Clone(body)
	for _, n := range []int{0, 1, 10, api.MaxBytes, api.MaxBytes + 1} {
		Record(body[:n])
	}
	if !bytes.Equal(body, bodyBefore) {
		t.Error("the body has changed")
	}

	file := append(fileOf(mixedBodies(4, 0, 30, 1)...), 15, 161, 0, 0, 0, 0, 7)
	fileBefore := slices.Clone(file)
	for n := range len(file) + 1 {
		Open(file[:n])
	}
	file[12]++
	Open(file)
	file[12]--
	if !bytes.Equal(file, fileBefore) {
		t.Errorf("the file is %v, was %v", file, fileBefore)
	}
}

// Results share memory neither with the arguments nor with other results.
func TestRecordsAreNew(t *testing.T) {
	body := []byte("Wikipedia")
	want := recordOf(body)
	first, _ := Record(body)
	second, _ := Record(body)
	clear(second[:cap(second)])
	if string(body) != "Wikipedia" {
		t.Errorf("the body became %v", body)
	}
	clear(body)
	if !bytes.Equal(first, want) {
		t.Errorf("the record became %v, was %v", first, want)
	}
}

func TestBodiesAreNew(t *testing.T) {
	want := mixedBodies(3, 0, 9, 300, 0, 1)
	// The spare capacity of the file is checked too.
	file := append(fileOf(want...), 1, 2, 3, 4, 5, 6, 7, 8, 9)
	fileBefore := slices.Clone(file)
	for i := range want {
		for _, spare := range []int{0, 4, 9} {
			bodies, _, _ := Open(file[:len(file)-spare])
			others, _, _ := Open(file[:len(file)-spare])
			clear(bodies[i][:cap(bodies[i])])
			_ = append(bodies[i], 77)
			_ = append(bodies[i], slices.Repeat([]byte{78}, 400)...)
			if !bytes.Equal(file, fileBefore) {
				t.Fatalf("body %d, %d spare bytes: the file became %v", i, spare, file)
			}
			bodies[i] = want[i]
			if !slices.EqualFunc(bodies, want, bytes.Equal) {
				t.Errorf("body %d, %d spare bytes: the bodies became %s", i, spare, brief(bodies))
			}
			clear(bodies[:cap(bodies)])
			if !slices.EqualFunc(others, want, bytes.Equal) {
				t.Errorf("body %d, %d spare bytes: the other bodies became %s", i, spare, brief(others))
			}
		}
	}
	bodies, _, _ := Open(file)
	clear(file)
	if !slices.EqualFunc(bodies, want, bytes.Equal) {
		t.Errorf("without the file the bodies became %s", brief(bodies))
	}
}

// A result depends on the arguments of its call only.
func TestCallsAreIndependent(t *testing.T) {
	bodies := mixedBodies(3, 0, 9)
	file := fileOf(bodies...)
	wantOpen(t, "at first", file, bodies, len(file), api.OK)
	wantRecord(t, "at first", bodies[0], file[:9])
	Open(fileOf(manyBodies(api.MaxRecords + 1)...))
	Open([]byte{15, 161, 0, 0, 0, 0})
	Record(make([]byte, api.MaxBytes+1))
	wantOpen(t, "once more", file, bodies, len(file), api.OK)
	wantRecord(t, "once more", bodies[0], file[:9])
}
