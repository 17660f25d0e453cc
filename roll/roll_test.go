package roll

import (
	"fmt"
	"math"
	"math/big"
	"slices"
	"testing"

	"barograph/api"
	"barograph/chunk"
)

const (
	smallest    = -1 << 55 // of times and values
	largest     = 1<<55 - 1
	smallestNum = -1 << 61 // of Min, Max and Sum
	largestNum  = 1<<61 - 1
)

// samples takes pairs: a time, and its value.
func samples(pairs ...int) []api.Sample {
	var l []api.Sample
	for i := 0; i < len(pairs); i += 2 {
		l = append(l, api.Sample{Time: pairs[i], Value: pairs[i+1]})
	}
	return l
}

// valued returns samples at the times 0, 1 and so on.
func valued(values ...int) []api.Sample {
	var l []api.Sample
	for i, n := range values {
		l = append(l, api.Sample{Time: i, Value: n})
	}
	return l
}

// timed returns samples whose values are 1, 2 and so on.
func timed(times ...int) []api.Sample {
	var l []api.Sample
	for i, n := range times {
		l = append(l, api.Sample{Time: n, Value: i + 1})
	}
	return l
}

// repeated returns so many samples with the same step and the same value.
func repeated(count, step, value int) []api.Sample {
	var l []api.Sample
	for i := range count {
		l = append(l, api.Sample{Time: i * step, Value: value})
	}
	return l
}

// mixed follows a fixed rule, so that the samples vary and the test stays repeatable. Steps have up to stepBits
// bits; the times begin below 0.
func mixed(seed uint64, count int, stepBits uint64) []api.Sample {
	next := func(bits uint64) int {
		seed = seed*6364136223846793005 + 1442695040888963407
		return int(seed >> 8 % (1 << (seed >> 20 % (bits + 1))))
	}
	time := -next(stepBits + 6)
	var l []api.Sample
	for range count {
		l = append(l, api.Sample{Time: time, Value: next(54) - next(54)})
		time += 1 + next(stepBits)
	}
	return l
}

// rollOf sorts the values, as a second way to the same result.
func rollOf(l []api.Sample) api.Roll {
	if len(l) == 0 {
		return api.Roll{}
	}
	var values []int
	sum := new(big.Int)
	for _, s := range l {
		values = append(values, s.Value)
		sum.Add(sum, big.NewInt(int64(s.Value)))
	}
	slices.Sort(values)
	return api.Roll{Count: len(l), Min: values[0], Max: values[len(l)-1], Sum: int(sum.Int64())}
}

func between(low, n, high int64) bool { return low <= n && n <= high }

// isValid writes down the document's conditions one by one.
func isValid(r api.Roll) bool {
	return between(0, int64(r.Count), api.MaxCount) &&
		r.Min <= r.Max &&
		between(smallestNum, int64(r.Min), largestNum) &&
		between(smallestNum, int64(r.Max), largestNum) &&
		between(smallestNum, int64(r.Sum), largestNum) &&
		(r.Count != 0 || r.Min == 0 && r.Max == 0 && r.Sum == 0)
}

// joinOf checks the sums as numbers of any size.
func joinOf(a, b api.Roll) (api.Roll, api.Errno) {
	if !isValid(a) || !isValid(b) {
		return api.Roll{}, api.ErrForm
	}
	count := new(big.Int).Add(big.NewInt(int64(a.Count)), big.NewInt(int64(b.Count)))
	sum := new(big.Int).Add(big.NewInt(int64(a.Sum)), big.NewInt(int64(b.Sum)))
	if count.Cmp(big.NewInt(api.MaxCount)) > 0 ||
		sum.Cmp(big.NewInt(smallestNum)) < 0 || sum.Cmp(big.NewInt(largestNum)) > 0 {
		return api.Roll{}, api.ErrOver
	}
	var ends []int
	for _, r := range []api.Roll{a, b} {
		if r.Count > 0 {
			ends = append(ends, r.Min, r.Max)
		}
	}
	if len(ends) == 0 {
		return api.Roll{}, api.OK
	}
	slices.Sort(ends)
	return api.Roll{
		Count: int(count.Int64()), Min: ends[0], Max: ends[len(ends)-1], Sum: int(sum.Int64()),
	}, api.OK
}

// bucketsOf collects the samples of each start in a map, and sorts the starts.
func bucketsOf(l []api.Sample, width int) ([]api.Sample, []api.Roll) {
	parts := map[int][]api.Sample{}
	var starts []int
	for _, s := range l {
		quotient, _ := new(big.Int).DivMod(big.NewInt(int64(s.Time)), big.NewInt(int64(width)), new(big.Int))
		start := int(quotient.Int64()) * width
		if parts[start] == nil {
			starts = append(starts, start)
		}
		parts[start] = append(parts[start], s)
	}
	slices.Sort(starts)
	var firsts []api.Sample
	var rolls []api.Roll
	for _, start := range starts {
		firsts = append(firsts, api.Sample{Time: start, Value: parts[start][0].Value})
		rolls = append(rolls, rollOf(parts[start]))
	}
	return firsts, rolls
}

func wantOf(t *testing.T, name string, l []api.Sample, want api.Roll) {
	t.Helper()
	if r, code := Of(l); code != api.OK || r != want {
		t.Errorf("%s: Of = %v, %d, want %v, %d", name, r, code, want, api.OK)
	}
}

func wantJoin(t *testing.T, name string, a, b, want api.Roll) {
	t.Helper()
	if r, code := Join(a, b); code != api.OK || r != want {
		t.Errorf("%s: Join(%v, %v) = %v, %d, want %v, %d", name, a, b, r, code, want, api.OK)
	}
	if r, code := Join(b, a); code != api.OK || r != want {
		t.Errorf("%s: Join(%v, %v) = %v, %d, want %v, %d", name, b, a, r, code, want, api.OK)
	}
}

func wantJoinError(t *testing.T, name string, a, b api.Roll, want api.Errno) {
	t.Helper()
	if r, code := Join(a, b); code != want || r != (api.Roll{}) {
		t.Errorf("%s: Join(%v, %v) = %v, %d, want zeros and %d", name, a, b, r, code, want)
	}
	if r, code := Join(b, a); code != want || r != (api.Roll{}) {
		t.Errorf("%s: Join(%v, %v) = %v, %d, want zeros and %d", name, b, a, r, code, want)
	}
}

func wantBuckets(t *testing.T, name string, l []api.Sample, width int, firsts []api.Sample, rolls []api.Roll) {
	t.Helper()
	gotFirsts, gotRolls, code := Buckets(l, width)
	if code != api.OK || !slices.Equal(gotFirsts, firsts) || !slices.Equal(gotRolls, rolls) {
		t.Errorf("%s: Buckets of width %d = %v, %v, %d, want %v, %v, %d",
			name, width, gotFirsts, gotRolls, code, firsts, rolls, api.OK)
	}
}

// wantStarts checks the starts of the buckets only.
func wantStarts(t *testing.T, l []api.Sample, width int, want ...int) {
	t.Helper()
	firsts, _, code := Buckets(l, width)
	var starts []int
	for _, s := range firsts {
		starts = append(starts, s.Time)
	}
	if code != api.OK || !slices.Equal(starts, want) {
		t.Errorf("Buckets(%v, %d) start at %v, %d, want %v, %d", l, width, starts, code, want, api.OK)
	}
}

func wantBucketsError(t *testing.T, name string, l []api.Sample, width int, want api.Errno) {
	t.Helper()
	firsts, rolls, code := Buckets(l, width)
	if code != want || len(firsts) != 0 || len(rolls) != 0 {
		t.Errorf("%s: Buckets of width %d = %v, %v, %d, want nothing and %d", name, width, firsts, rolls, code, want)
	}
}

// P5.1: numbers written out by hand.
func TestOf(t *testing.T) {
	for _, c := range []struct {
		name string
		l    []api.Sample
		want api.Roll
	}{
		{"the document's example", valued(3, 5), api.Roll{Count: 2, Min: 3, Max: 5, Sum: 8}},
		{"nil", nil, api.Roll{}},
		{"empty", []api.Sample{}, api.Roll{}},
		{"one sample of zeros", samples(0, 0), api.Roll{Count: 1}},
		{"one sample", samples(100, 7), api.Roll{Count: 1, Min: 7, Max: 7, Sum: 7}},
		{"one sample below 0", samples(-100, -7), api.Roll{Count: 1, Min: -7, Max: -7, Sum: -7}},
		{"values above 0", valued(9, 4, 6), api.Roll{Count: 3, Min: 4, Max: 9, Sum: 19}},
		{"values below 0", valued(-4, -9, -6), api.Roll{Count: 3, Min: -9, Max: -4, Sum: -19}},
		{"both signs", valued(-2, 0, 5, -1), api.Roll{Count: 4, Min: -2, Max: 5, Sum: 2}},
		{"decreasing values", valued(3, 2, 1), api.Roll{Count: 3, Min: 1, Max: 3, Sum: 6}},
		{"the values cancel out", valued(8, -8), api.Roll{Count: 2, Min: -8, Max: 8}},
		{"the same value", valued(5, 5, 5), api.Roll{Count: 3, Min: 5, Max: 5, Sum: 15}},
		{"zeros count", valued(0, 0, 0), api.Roll{Count: 3}},
		{"a 0 among values above 0", valued(4, 0, 4), api.Roll{Count: 3, Min: 0, Max: 4, Sum: 8}},
		{"times do not matter", samples(-50, 1, 60, 2, largest, 3), api.Roll{Count: 3, Min: 1, Max: 3, Sum: 6}},
	} {
		wantOf(t, c.name, c.l, c.want)
	}
}

func TestOfEdges(t *testing.T) {
	wantOf(t, "the largest value", valued(largest), api.Roll{Count: 1, Min: largest, Max: largest, Sum: largest})
	wantOf(t, "the smallest value", valued(smallest), api.Roll{Count: 1, Min: smallest, Max: smallest, Sum: smallest})
	wantOf(t, "both", valued(largest, smallest), api.Roll{Count: 2, Min: smallest, Max: largest, Sum: -1})
	wantOf(t, "the ends of time", samples(smallest, 1, largest, 2), api.Roll{Count: 2, Min: 1, Max: 2, Sum: 3})
	wantOf(t, "MaxSamples samples", repeated(api.MaxSamples, 1, 3), api.Roll{Count: 120, Min: 3, Max: 3, Sum: 360})
}

// Of has no error for a sum that is too large for a valid roll.
func TestOfLargeSums(t *testing.T) {
	least, most := repeated(64, 1, smallest), append(repeated(64, 1, largest), api.Sample{Time: 64, Value: 63})
	wantOf(t, "the smallest valid sum", least, api.Roll{Count: 64, Min: smallest, Max: smallest, Sum: smallestNum})
	wantOf(t, "the largest valid sum", most, api.Roll{Count: 65, Min: 63, Max: largest, Sum: largestNum})
	least, most = append(least, api.Sample{Time: 64, Value: -1}), append(most, api.Sample{Time: 65, Value: 1})
	wantOf(t, "one less", least, api.Roll{Count: 65, Min: smallest, Max: -1, Sum: smallestNum - 1})
	wantOf(t, "one more", most, api.Roll{Count: 66, Min: 1, Max: largest, Sum: largestNum + 1})
	wantOf(t, "MaxSamples of the smallest", repeated(api.MaxSamples, 1, smallest),
		api.Roll{Count: 120, Min: smallest, Max: smallest, Sum: 120 * smallest})
	wantOf(t, "MaxSamples of the largest", repeated(api.MaxSamples, 1, largest),
		api.Roll{Count: 120, Min: largest, Max: largest, Sum: 120 * largest})
}

func TestOfMixedSamples(t *testing.T) {
	for seed := range uint64(5 * (api.MaxSamples + 1)) {
		l := mixed(seed, int(seed%(api.MaxSamples+1)), 46)
		wantOf(t, fmt.Sprint("seed ", seed), l, rollOf(l))
	}
}

type wrongList struct {
	name string
	l    []api.Sample
	want api.Errno
}

// wrongLists have every error of chunk.Encode, also several at once.
func wrongLists() []wrongList {
	tooMany := repeated(api.MaxSamples+1, 1, 0)
	lastOver, lastOld := repeated(api.MaxSamples, 1, 0), repeated(api.MaxSamples, 1, 0)
	lastOver[api.MaxSamples-1].Value = largest + 1
	lastOld[api.MaxSamples-1].Time--
	tooManyOver := slices.Clone(tooMany)
	tooManyOver[0].Value = math.MinInt
	lists := []wrongList{
		{"too many", tooMany, api.ErrSize},
		{"twice too many", repeated(2*api.MaxSamples, 1, 0), api.ErrSize},
		{"too many, over", tooManyOver, api.ErrSize},
		{"too many, old", make([]api.Sample, api.MaxSamples+1), api.ErrSize},
		{"the last value over", lastOver, api.ErrOver},
		{"the last time old", lastOld, api.ErrOld},
		{"the same time", samples(5, 1, 5, 2), api.ErrOld},
		{"an earlier time", samples(5, 1, 4, 2), api.ErrOld},
		{"an earlier time below 0", samples(-5, 1, -6, 2), api.ErrOld},
		{"the third time old", samples(1, 0, 3, 0, 2, 0), api.ErrOld},
		{"the times at the ends, old", samples(largest, 0, smallest, 0), api.ErrOld},
		{"over and old", samples(5, 1, 5, largest+1), api.ErrOver},
		{"over ahead of old", samples(5, largest+1, 5, 1), api.ErrOver},
		{"old ahead of over", samples(5, 1, 5, 1, 6, largest+1), api.ErrOld},
	}
	for _, n := range []int{smallest - 1, largest + 1, smallestNum, largestNum, math.MinInt, math.MaxInt} {
		name := fmt.Sprint("over ", n)
		lists = append(lists,
			wrongList{name + ": time", samples(n, 0), api.ErrOver},
			wrongList{name + ": value", samples(0, n), api.ErrOver},
			wrongList{name + ": second value", samples(0, 0, 1, n), api.ErrOver},
			wrongList{name + ": second time", samples(0, 0, n, 0), api.ErrOver},
			wrongList{name + ": both signs", samples(0, n, 1, -n), api.ErrOver},
		)
	}
	return lists
}

func TestOfErrors(t *testing.T) {
	for _, c := range wrongLists() {
		if r, code := Of(c.l); code != c.want || r != (api.Roll{}) {
			t.Errorf("%s: Of = %v, %d, want zeros and %d", c.name, r, code, c.want)
		}
		if _, code := chunk.Encode(c.l); code != c.want {
			t.Errorf("%s: Encode has the error %d, want %d", c.name, code, c.want)
		}
	}
}

// P5.2: numbers written out by hand.
func TestJoin(t *testing.T) {
	for _, c := range []struct {
		name       string
		a, b, want api.Roll
	}{
		{"two rolls of no samples", api.Roll{}, api.Roll{}, api.Roll{}},
		{"apart", api.Roll{Count: 2, Min: 3, Max: 5, Sum: 8}, api.Roll{Count: 1, Min: 9, Max: 9, Sum: 9},
			api.Roll{Count: 3, Min: 3, Max: 9, Sum: 17}},
		{"overlapping", api.Roll{Count: 2, Min: 3, Max: 7, Sum: 10}, api.Roll{Count: 2, Min: 5, Max: 9, Sum: 14},
			api.Roll{Count: 4, Min: 3, Max: 9, Sum: 24}},
		{"one within the other", api.Roll{Count: 2, Min: 1, Max: 9, Sum: 10}, api.Roll{Count: 1, Min: 3, Max: 3, Sum: 3},
			api.Roll{Count: 3, Min: 1, Max: 9, Sum: 13}},
		{"both signs", api.Roll{Count: 2, Min: -8, Max: -3, Sum: -11}, api.Roll{Count: 1, Min: 4, Max: 4, Sum: 4},
			api.Roll{Count: 3, Min: -8, Max: 4, Sum: -7}},
		{"below 0", api.Roll{Count: 1, Min: -8, Max: -8, Sum: -8}, api.Roll{Count: 1, Min: -3, Max: -3, Sum: -3},
			api.Roll{Count: 2, Min: -8, Max: -3, Sum: -11}},
		{"the same roll", api.Roll{Count: 2, Min: 3, Max: 5, Sum: 8}, api.Roll{Count: 2, Min: 3, Max: 5, Sum: 8},
			api.Roll{Count: 4, Min: 3, Max: 5, Sum: 16}},
		{"a sample with the value 0", api.Roll{Count: 1, Min: 6, Max: 6, Sum: 6}, api.Roll{Count: 1},
			api.Roll{Count: 2, Min: 0, Max: 6, Sum: 6}},
	} {
		wantJoin(t, c.name, c.a, c.b, c.want)
	}
}

// validRolls are at and near the ends of each range. The document does not relate Sum to Count, Min and Max.
var validRolls = []api.Roll{
	{},
	{Count: 1},
	{Count: 1, Min: 7, Max: 7, Sum: 7},
	{Count: 1, Min: -7, Max: -7, Sum: -7},
	{Count: 1, Min: 3, Max: 5, Sum: 100},
	{Count: 3, Min: -4, Max: 9, Sum: 1},
	{Count: api.MaxCount},
	{Count: api.MaxCount - 1, Min: 1, Max: 2, Sum: 3},
	{Count: 1, Min: smallestNum, Max: largestNum},
	{Count: 1, Min: smallestNum, Max: smallestNum, Sum: smallestNum},
	{Count: 1, Min: largestNum, Max: largestNum, Sum: largestNum},
	{Count: 2, Min: -1, Max: 1, Sum: largestNum},
	{Count: 2, Min: -1, Max: 1, Sum: smallestNum},
	{Count: 2, Min: -1, Max: 1, Sum: largestNum - 1},
	{Count: 2, Min: -1, Max: 1, Sum: smallestNum + 1},
}

// wrongRolls break one condition each.
var wrongRolls = []api.Roll{
	{Count: -1},
	{Count: -1, Min: 1, Max: 2, Sum: 3},
	{Count: math.MinInt, Min: 1, Max: 2, Sum: 3},
	{Count: api.MaxCount + 1, Min: 1, Max: 2, Sum: 3},
	{Count: math.MaxInt, Min: 1, Max: 2, Sum: 3},
	{Min: -1},
	{Max: 1},
	{Sum: 1},
	{Sum: -1},
	{Min: 1, Max: 1},
	{Min: -1, Max: -1},
	{Min: 3, Max: 3, Sum: 3},
	{Min: -1, Max: 1},
	{Count: 1, Min: 1, Max: 0},
	{Count: 2, Min: 5, Max: 3, Sum: 8},
	{Count: 2, Min: largestNum, Max: smallestNum},
	{Count: 2, Min: smallestNum - 1, Max: 2, Sum: 3},
	{Count: 2, Min: math.MinInt, Max: 2, Sum: 3},
	{Count: 2, Min: 1, Max: largestNum + 1, Sum: 3},
	{Count: 2, Min: 1, Max: math.MaxInt, Sum: 3},
	{Count: 2, Min: smallestNum - 1, Max: smallestNum - 1, Sum: 3},
	{Count: 2, Min: largestNum + 1, Max: largestNum + 1, Sum: 3},
	{Count: 2, Min: 1, Max: 2, Sum: smallestNum - 1},
	{Count: 2, Min: 1, Max: 2, Sum: largestNum + 1},
	{Count: 2, Min: 1, Max: 2, Sum: math.MinInt},
	{Count: 2, Min: 1, Max: 2, Sum: math.MaxInt},
	{Count: math.MinInt, Min: math.MinInt, Max: math.MinInt, Sum: math.MinInt},
	{Count: math.MaxInt, Min: math.MaxInt, Max: math.MaxInt, Sum: math.MaxInt},
}

func TestJoinWithNoSamples(t *testing.T) {
	for _, r := range validRolls {
		wantJoin(t, "no samples", r, api.Roll{}, r)
	}
}

func TestJoinForm(t *testing.T) {
	for _, wrong := range wrongRolls {
		wantJoinError(t, "with itself", wrong, wrong, api.ErrForm)
		for _, r := range validRolls {
			wantJoinError(t, "with a valid roll", wrong, r, api.ErrForm)
		}
		for _, other := range wrongRolls {
			wantJoinError(t, "with another one", wrong, other, api.ErrForm)
		}
	}
}

func TestJoinOfListsWithLargeSums(t *testing.T) {
	for _, value := range []int{smallest, largest} {
		valid, _ := Of(repeated(64, 1, value))
		wrong, _ := Of(repeated(65, 1, value))
		wantJoin(t, "64 samples", valid, api.Roll{}, valid)
		wantJoinError(t, "65 samples", wrong, api.Roll{}, api.ErrForm)
		one, _ := Of(repeated(1, 1, value))
		wantJoinError(t, "64 samples and one", valid, one, api.ErrOver)
	}
}

func TestJoinCount(t *testing.T) {
	roll := func(count int) api.Roll { return api.Roll{Count: count, Min: 1, Max: 2, Sum: 3} }
	full := api.Roll{Count: api.MaxCount, Min: 1, Max: 2, Sum: 6}
	for _, count := range []int{1, 2, 1000, api.MaxCount / 2, api.MaxCount - 1} {
		wantJoin(t, "MaxCount samples", roll(count), roll(api.MaxCount-count), full)
		wantJoinError(t, "one more", roll(count), roll(api.MaxCount-count+1), api.ErrOver)
		wantJoinError(t, "MaxCount more", roll(count), roll(api.MaxCount), api.ErrOver)
	}
	wantJoin(t, "MaxCount and none", full, api.Roll{}, full)
	wantJoinError(t, "twice MaxCount", full, full, api.ErrOver)
}

func TestJoinSum(t *testing.T) {
	roll := func(sum int) api.Roll { return api.Roll{Count: 1, Min: -1, Max: 1, Sum: sum} }
	both := func(sum int) api.Roll { return api.Roll{Count: 2, Min: -1, Max: 1, Sum: sum} }
	for _, n := range []int{1, 2, largest, 1 << 60, largestNum} {
		wantJoin(t, "the largest sum", roll(n), roll(largestNum-n), both(largestNum))
		wantJoinError(t, "one more", roll(n), roll(largestNum-n+1), api.ErrOver)
		wantJoin(t, "the smallest sum", roll(-n), roll(smallestNum+n), both(smallestNum))
		wantJoinError(t, "one less", roll(-n), roll(smallestNum+n-1), api.ErrOver)
	}
	wantJoin(t, "the ends", roll(smallestNum), roll(largestNum), both(-1))
	wantJoinError(t, "twice the largest", roll(largestNum), roll(largestNum), api.ErrOver)
	wantJoinError(t, "twice the smallest", roll(smallestNum), roll(smallestNum), api.ErrOver)
	wantJoinError(t, "count and sum", api.Roll{Count: api.MaxCount, Sum: largestNum}, roll(1), api.ErrOver)
}

func TestJoinFormAheadOfOver(t *testing.T) {
	full := api.Roll{Count: api.MaxCount, Min: 1, Max: 1, Sum: largestNum}
	for _, wrong := range []api.Roll{
		{Count: api.MaxCount + 1, Min: 1, Max: 1, Sum: 1},
		{Count: 1, Min: 2, Max: 1, Sum: 1},
		{Count: 1, Min: 1, Max: 1, Sum: largestNum + 1},
		{Count: 1, Min: 1, Max: largestNum + 1, Sum: 1},
	} {
		wantJoinError(t, "form and over", full, wrong, api.ErrForm)
	}
}

// Rolls of all combinations of numbers at and near the ends agree with the document's conditions.
func TestJoinAgreesWithConditions(t *testing.T) {
	counts := []int{math.MinInt, -1, 0, 1, api.MaxCount - 1, api.MaxCount, api.MaxCount + 1, math.MaxInt}
	numbers := []int{math.MinInt, smallestNum - 1, smallestNum, -1, 0, 1, largestNum, largestNum + 1, math.MaxInt}
	agree := func(a, b api.Roll) {
		want, wantCode := joinOf(a, b)
		if r, code := Join(a, b); code != wantCode || r != want {
			t.Fatalf("Join(%v, %v) = %v, %d, want %v, %d", a, b, r, code, want, wantCode)
		}
	}
	for _, count := range counts {
		for _, low := range numbers {
			for _, high := range numbers {
				for _, sum := range numbers {
					r := api.Roll{Count: count, Min: low, Max: high, Sum: sum}
					for _, other := range validRolls {
						agree(r, other)
						agree(other, r)
					}
				}
			}
		}
	}
}

// The rolls of two parts of a list are joined to that of the list.
func TestJoinPartsOfAList(t *testing.T) {
	for seed := range uint64(20) {
		l := mixed(seed, int(seed*6), 40)
		for n := range len(l) + 1 {
			a, _ := Of(l[:n])
			b, _ := Of(l[n:])
			wantJoin(t, fmt.Sprintf("%d samples of %d", n, len(l)), a, b, rollOf(l))
		}
	}
}

// joinAll joins rolls one after the other.
func joinAll(t *testing.T, rolls ...api.Roll) api.Roll {
	t.Helper()
	var total api.Roll
	for _, r := range rolls {
		next, code := Join(total, r)
		if code != api.OK {
			t.Errorf("Join(%v, %v) has the error %d", total, r, code)
		}
		total = next
	}
	return total
}

func TestJoinInAnyOrder(t *testing.T) {
	for seed := range uint64(50) {
		l := mixed(seed, 60, 40)
		first, second := int(seed), int(seed)+int(seed%10)
		a, _ := Of(l[:first])
		b, _ := Of(l[first:second])
		c, _ := Of(l[second:])
		for _, order := range [][]api.Roll{{a, b, c}, {a, c, b}, {b, a, c}, {b, c, a}, {c, a, b}, {c, b, a}} {
			if r := joinAll(t, order...); r != rollOf(l) {
				t.Errorf("seed %d: %v joined to %v, want %v", seed, order, r, rollOf(l))
			}
			wantJoin(t, fmt.Sprint("seed ", seed), order[0], joinAll(t, order[1:]...), rollOf(l))
		}
	}
}

// P5.3: buckets written out by hand.
func TestBuckets(t *testing.T) {
	wantBuckets(t, "the document's example", samples(-1, 4, 0, 6), 10, samples(-10, 4, 0, 6), []api.Roll{
		{Count: 1, Min: 4, Max: 4, Sum: 4},
		{Count: 1, Min: 6, Max: 6, Sum: 6},
	})
	wantBuckets(t, "nil", nil, 10, nil, nil)
	wantBuckets(t, "empty", []api.Sample{}, 10, nil, nil)
	wantBuckets(t, "one sample", samples(17, -5), 10, samples(10, -5), []api.Roll{
		{Count: 1, Min: -5, Max: -5, Sum: -5},
	})
	wantBuckets(t, "the first value, neither least nor greatest", samples(21, 5, 22, 9, 28, -3, 29, 4), 10,
		samples(20, 5), []api.Roll{{Count: 4, Min: -3, Max: 9, Sum: 15}})
	wantBuckets(t, "both signs, and no empty buckets", samples(-35, 1, -31, -2, -1, 7, 0, -7, 5, -8, 100, 0), 10,
		samples(-40, 1, -10, 7, 0, -7, 100, 0), []api.Roll{
			{Count: 2, Min: -2, Max: 1, Sum: -1},
			{Count: 1, Min: 7, Max: 7, Sum: 7},
			{Count: 2, Min: -8, Max: -7, Sum: -15},
			{Count: 1},
		})
}

func TestBucketsAtMultiples(t *testing.T) {
	wantStarts(t, timed(-20), 10, -20)
	wantStarts(t, timed(-11), 10, -20)
	wantStarts(t, timed(-10), 10, -10)
	wantStarts(t, timed(-1), 10, -10)
	wantStarts(t, timed(0), 10, 0)
	wantStarts(t, timed(9), 10, 0)
	wantStarts(t, timed(10), 10, 10)
	wantStarts(t, timed(-21, -20, -11, -10, -1, 0, 9, 10, 19, 20), 10, -30, -20, -10, 0, 10, 20)
	wantStarts(t, timed(-30, -20, -10, 0, 10, 20), 10, -30, -20, -10, 0, 10, 20)
	wantStarts(t, timed(-8, -7, -6, -1, 0, 6, 7), 7, -14, -7, 0, 7)
}

func TestBucketsOfWidth1(t *testing.T) {
	l := samples(smallest, 3, -2, 8, -1, 0, 0, -1, 1, 5, 3, 5, largest, 9)
	wantBuckets(t, "each sample is a bucket", l, 1, l, []api.Roll{
		{Count: 1, Min: 3, Max: 3, Sum: 3},
		{Count: 1, Min: 8, Max: 8, Sum: 8},
		{Count: 1},
		{Count: 1, Min: -1, Max: -1, Sum: -1},
		{Count: 1, Min: 5, Max: 5, Sum: 5},
		{Count: 1, Min: 5, Max: 5, Sum: 5},
		{Count: 1, Min: 9, Max: 9, Sum: 9},
	})
}

func TestBucketsOfMaxCount(t *testing.T) {
	const width = api.MaxCount
	wantStarts(t, timed(-width-1, -width, -1, 0, 1, width-1, width, 2*width-1), width, -2*width, -width, 0, width)
	wantStarts(t, timed(smallest, smallest+width-1, smallest+width), width, smallest, smallest+width)
	wantStarts(t, timed(largest-width, largest-width+1, largest), width, largest+1-2*width, largest+1-width)
}

// The smallest time is not a multiple of these widths: its bucket starts ahead of the range of times.
func TestBucketsAtTheEndsOfTime(t *testing.T) {
	wantStarts(t, timed(smallest, smallest+1, smallest+2, largest), 3, smallest-1, smallest+2, largest-1)
	for _, width := range []int{3, 5, 7, 1000, 65537, api.MaxCount - 1} {
		l := timed(smallest, smallest+1, largest-1, largest)
		firsts, rolls := bucketsOf(l, width)
		if firsts[0].Time >= smallest {
			t.Errorf("width %d: the first bucket starts at %d", width, firsts[0].Time)
		}
		wantBuckets(t, "the ends of time", l, width, firsts, rolls)
	}
}

func TestBucketsNumber(t *testing.T) {
	for _, count := range []int{1, 2, api.MaxBuckets - 1, api.MaxBuckets} {
		l := repeated(count, 10, 4)
		rolls := slices.Repeat([]api.Roll{{Count: 1, Min: 4, Max: 4, Sum: 4}}, count)
		wantBuckets(t, fmt.Sprint(count, " buckets"), l, 10, l, rolls)
	}
	for count := api.MaxBuckets + 1; count <= api.MaxSamples; count++ {
		wantBucketsError(t, fmt.Sprint(count, " buckets"), repeated(count, 10, 4), 10, api.ErrFull)
		wantBucketsError(t, fmt.Sprint(count, " buckets"), repeated(count, 1, 4), 1, api.ErrFull)
	}
}

func TestBucketsOfMaxSamples(t *testing.T) {
	wantBuckets(t, "one bucket", repeated(api.MaxSamples, 1, 2), api.MaxSamples, samples(0, 2),
		[]api.Roll{{Count: 120, Min: 2, Max: 2, Sum: 240}})
	wantBucketsError(t, "MaxSamples buckets", repeated(api.MaxSamples, 99, 0), 99, api.ErrFull)
	extra := api.MaxSamples - api.MaxBuckets
	l := repeated(extra, 1, 3)
	for i := range api.MaxBuckets {
		l = append(l, api.Sample{Time: extra + i*100, Value: -i})
	}
	firsts, rolls := bucketsOf(l, 100)
	if len(l) != api.MaxSamples || len(rolls) != api.MaxBuckets {
		t.Fatalf("%d samples in %d buckets", len(l), len(rolls))
	}
	wantBuckets(t, "MaxBuckets buckets", l, 100, firsts, rolls)
	l[0].Time = -1
	wantBucketsError(t, "one more bucket", l, 100, api.ErrFull)
}

// Buckets has no error for a sum that is too large for a valid roll.
func TestBucketsLargeSums(t *testing.T) {
	for _, value := range []int{smallest, largest} {
		wantBuckets(t, "MaxSamples of one value", repeated(api.MaxSamples, 1, value), 110, samples(0, value, 110, value),
			[]api.Roll{
				{Count: 110, Min: value, Max: value, Sum: 110 * value},
				{Count: 10, Min: value, Max: value, Sum: 10 * value},
			})
	}
}

var wrongWidths = []int{0, -1, -2, -10, -api.MaxCount, api.MaxCount + 1, 2 * api.MaxCount, 1 << 32, 1<<32 + 1,
	math.MinInt, math.MinInt + 1, math.MaxInt}

func TestBucketsErrors(t *testing.T) {
	for _, width := range wrongWidths {
		wantBucketsError(t, "no samples", nil, width, api.ErrRange)
		wantBucketsError(t, "one sample", samples(1, 2), width, api.ErrRange)
		wantBucketsError(t, "samples of both signs", timed(-10, -1, 0, 10), width, api.ErrRange)
		wantBucketsError(t, "too many buckets", repeated(api.MaxSamples, 1<<40, 2), width, api.ErrRange)
	}
	for _, c := range wrongLists() {
		for _, width := range []int{1, 10, api.MaxCount} {
			wantBucketsError(t, c.name, c.l, width, c.want)
		}
		for _, width := range wrongWidths {
			wantBucketsError(t, c.name+", wrong width", c.l, width, api.ErrRange)
		}
	}
}

func TestBucketsListAheadOfFull(t *testing.T) {
	wantBucketsError(t, "size ahead of full", repeated(api.MaxSamples+1, 1, 0), 1, api.ErrSize)
	l := repeated(api.MaxSamples, 1, 0)
	wantBucketsError(t, "full", l, 1, api.ErrFull)
	l[api.MaxSamples-1].Value = largest + 1
	wantBucketsError(t, "over ahead of full", l, 1, api.ErrOver)
	l[api.MaxSamples-1] = l[api.MaxSamples-2]
	wantBucketsError(t, "old ahead of full", l, 1, api.ErrOld)
}

func TestBucketsMixedSamples(t *testing.T) {
	for seed := range uint64(400) {
		l := mixed(seed, int(seed%(api.MaxSamples+1)), seed%21)
		for _, width := range []int{1, 2, 3, 10, 60, 1000, 4096, 99991, api.MaxCount - 1, api.MaxCount} {
			name := fmt.Sprint("seed ", seed)
			firsts, rolls := bucketsOf(l, width)
			if len(firsts) > api.MaxBuckets {
				wantBucketsError(t, name, l, width, api.ErrFull)
				continue
			}
			wantBuckets(t, name, l, width, firsts, rolls)
		}
	}
}

// Every time near 0 is in the bucket that the document describes, for every small width.
func TestBucketsOfEachTime(t *testing.T) {
	for width := 1; width <= 30; width++ {
		for time := -100; time <= 100; time++ {
			firsts, _, code := Buckets(samples(time, 1), width)
			if code != api.OK || len(firsts) != 1 {
				t.Fatalf("time %d, width %d: %v, %d", time, width, firsts, code)
			}
			if start := firsts[0].Time; start%width != 0 || time < start || time >= start+width {
				t.Errorf("time %d, width %d: the bucket starts at %d", time, width, start)
			}
		}
	}
}

// The arguments stay as they are, including their spare capacity.
func TestArgumentsStay(t *testing.T) {
	l := samples(-10, 5, -1, 8, 0, 5, 20, 6, 20, 7, 7, largest+1)
	before := slices.Clone(l)
	for n := range l {
		Of(l[:n])
		for _, width := range []int{0, 1, 10} {
			Buckets(l[:n], width)
		}
	}
	if !slices.Equal(l, before) {
		t.Errorf("samples are %v, were %v", l, before)
	}
}

// Results share memory neither with the arguments nor with other results.
func TestResultsAreNew(t *testing.T) {
	l := samples(-10, 5, 0, 8, 20, -6)
	firsts, rolls, _ := Buckets(l, 1)
	others, otherRolls, _ := Buckets(l, 1)
	wantFirsts, wantRolls := bucketsOf(l, 1)
	clear(l)
	clear(others[:cap(others)])
	clear(otherRolls[:cap(otherRolls)])
	if !slices.Equal(firsts, wantFirsts) || !slices.Equal(rolls, wantRolls) {
		t.Errorf("buckets became %v, %v", firsts, rolls)
	}
	clear(firsts[:cap(firsts)])
	if !slices.Equal(rolls, wantRolls) {
		t.Errorf("rolls became %v", rolls)
	}
}

// A result depends on the arguments of its call only.
func TestCallsAreIndependent(t *testing.T) {
	l := mixed(9, 80, 12)
	total, _ := Of(l)
	firsts, rolls := bucketsOf(l, 5000)
	Of(valued(largest + 1))
	Join(total, api.Roll{Sum: 1})
	Buckets(repeated(api.MaxSamples, 1, 7), 1)
	wantOf(t, "once more", l, total)
	wantBuckets(t, "once more", l, 5000, firsts, rolls)
}
