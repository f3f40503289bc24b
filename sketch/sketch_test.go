package sketch_test

import (
	"fmt"
	"hash/fnv"
	"math"
	"math/rand"
	"slices"
	"strings"
	"testing"

	"slopchest/api"
	"slopchest/hash"
	"slopchest/sketch"
)

// of is the sketch with these rows, as wide as the first one.
func of(rows ...[]int) api.Sketch {
	return api.Sketch{Wide: len(rows[0]), Counts: rows}
}

// empty is a sketch to which nothing was added.
func empty(rows, wide int) api.Sketch {
	return flat(rows, wide, 0)
}

// flat is a sketch all of whose counters are the same.
func flat(rows, wide, count int) api.Sketch {
	s := api.Sketch{Wide: wide, Counts: make([][]int, rows)}
	for i := range s.Counts {
		s.Counts[i] = slices.Repeat([]int{count}, wide)
	}
	return s
}

// slowPlace follows the document, with the sum of the standard library.
func slowPlace(wide int, key string, row int) int {
	sum := fnv.New64a()
	sum.Write([]byte(key))
	n := hash.Mix(sum.Sum64() ^ uint64(row))
	return int((n >> 32) * uint64(wide) >> 32)
}

func equal(a, b api.Sketch) bool {
	return a.Wide == b.Wide && slices.EqualFunc(a.Counts, b.Counts, slices.Equal[[]int])
}

func clone(s api.Sketch) api.Sketch {
	rows := make([][]int, len(s.Counts))
	for i, row := range s.Counts {
		rows[i] = slices.Clone(row)
	}
	return api.Sketch{Wide: s.Wide, Counts: rows}
}

func wantSketch(t *testing.T, what string, got api.Sketch, err api.Errno, want api.Sketch) {
	t.Helper()
	if err != api.OK || !equal(got, want) {
		t.Errorf("%s = %v, %d; want %v, OK", what, got, err, want)
	}
}

func wantError(t *testing.T, what string, got api.Sketch, err, want api.Errno) {
	t.Helper()
	if err != want || !equal(got, api.Sketch{}) {
		t.Errorf("%s = %v, %d; want no sketch, %d", what, got, err, want)
	}
}

func wantNumber(t *testing.T, what string, got int, err api.Errno, want int) {
	t.Helper()
	if got != want || err != api.OK {
		t.Errorf("%s = %d, %d; want %d, OK", what, got, err, want)
	}
}

func wantNoNumber(t *testing.T, what string, got int, err, want api.Errno) {
	t.Helper()
	if got != 0 || err != want {
		t.Errorf("%s = %d, %d; want 0, %d", what, got, err, want)
	}
}

// keys are strings of all kinds that can be added.
func keys() []string {
	list := []string{
		"", "a", "b", "c", "\x00", "\xff\xfe", "é",
		strings.Repeat("k", api.MaxText), strings.Repeat("\xff", api.MaxText), strings.Repeat("é", api.MaxText/2),
	}
	for i := range 20 {
		list = append(list, fmt.Sprint("key ", i))
	}
	return list
}

// tooLong are strings that cannot be added.
func tooLong() []string {
	// The second one has fewer runes than MaxText, but more bytes.
	return []string{strings.Repeat("k", api.MaxText+1), strings.Repeat("é", api.MaxText/2+1), strings.Repeat("\x00", 1<<20)}
}

// outOfRange are numbers that cannot be added.
func outOfRange() []int {
	return []int{0, -1, api.MaxCount + 1, -api.MaxCount, math.MinInt, math.MaxInt}
}

func widths() []int {
	return []int{1, 2, 3, 4, 5, 7, 8, 16, 31, 32, 33, api.MaxWide - 1, api.MaxWide}
}

// everySize calls a function with all numbers of rows and many widths.
func everySize(run func(rows, wide int)) {
	for rows := 1; rows <= api.MaxRows; rows++ {
		for _, wide := range widths() {
			run(rows, wide)
		}
	}
}

// randomSketch returns a sketch in which each row distributes the same total
// in its own way.
func randomSketch(source *rand.Rand, rows, wide, parts, most int) api.Sketch {
	s := empty(rows, wide)
	for range parts {
		many := 1 + source.Intn(most)
		for i := range s.Counts {
			s.Counts[i][source.Intn(wide)] += many
		}
	}
	return s
}

// badSketch is a sketch that Check refuses.
type badSketch struct {
	name string
	s    api.Sketch
	want api.Errno
}

// badSketches are sketches with each of the errors of Check, alone and with others.
func badSketches() []badSketch {
	list := []badSketch{
		{"zero", api.Sketch{}, api.ErrForm},
		{"no rows", api.Sketch{Wide: 4}, api.ErrForm},
		{"no rows, not nil", api.Sketch{Wide: 4, Counts: [][]int{}}, api.ErrForm},
		{"a row too many", empty(api.MaxRows+1, 4), api.ErrMany},
		{"many rows", empty(1000, 1), api.ErrMany},
		{"a short row", api.Sketch{Wide: 4, Counts: [][]int{{0, 0, 0}}}, api.ErrForm},
		{"a long row", api.Sketch{Wide: 2, Counts: [][]int{{0, 0, 0}}}, api.ErrForm},
		{"a row that is nil", api.Sketch{Wide: 1, Counts: [][]int{nil}}, api.ErrForm},
		{"a last row that is short", of([]int{0, 1}, []int{1, 0}, []int{1}), api.ErrForm},
		{"a last row that is long", of([]int{0, 1}, []int{1, 0}, []int{0, 1, 0}), api.ErrForm},
		{"a row of MaxWide and one more", api.Sketch{Wide: api.MaxWide, Counts: [][]int{make([]int, api.MaxWide+1)}}, api.ErrForm},
		{"sums that differ", of([]int{1, 2}, []int{2, 2}), api.ErrState},
		{"sums of which the last differs", of([]int{1, 2}, []int{2, 1}, []int{0, 3}, []int{3, 1}), api.ErrState},
		{"sums of which the first differs", of([]int{1, 1}, []int{2, 1}, []int{0, 3}), api.ErrState},
		{"sums of which the middle differs", of([]int{1, 2}, []int{2, 2}, []int{0, 3}), api.ErrState},
		{"great sums that differ by 1", of(slices.Repeat([]int{api.MaxCount}, 64), append(slices.Repeat([]int{api.MaxCount}, 63), api.MaxCount-1)), api.ErrState},
		// The errors of the whole sketch come in their order, and before those of the rows.
		{"no rows before width", api.Sketch{Wide: -1}, api.ErrForm},
		{"rows before width", api.Sketch{Wide: 0, Counts: make([][]int, api.MaxRows+1)}, api.ErrMany},
		{"rows before the length of one", api.Sketch{Wide: 3, Counts: make([][]int, api.MaxRows+1)}, api.ErrMany},
		{"rows before a counter", flat(api.MaxRows+1, 2, -1), api.ErrMany},
		{"width before the length of a row", api.Sketch{Wide: api.MaxWide + 1, Counts: [][]int{{1}}}, api.ErrRange},
		{"width before sums", api.Sketch{Wide: 0, Counts: [][]int{{1}, {2}}}, api.ErrRange},
		{"width before a counter", flat(1, api.MaxWide+1, -1), api.ErrRange},
		// Of several rows the first one counts, and of one row the first error.
		{"length before a counter", api.Sketch{Wide: 2, Counts: [][]int{{-1}}}, api.ErrForm},
		{"length of one row before a counter of the next", api.Sketch{Wide: 2, Counts: [][]int{{1}, {-1, 2}}}, api.ErrForm},
		{"a counter of one row before the length of the next", api.Sketch{Wide: 2, Counts: [][]int{{-1, 2}, {1}}}, api.ErrRange},
		// The sums come last.
		{"length before sums", of([]int{1, 2}, []int{2, 2}, []int{3}), api.ErrForm},
		{"a counter before sums", of([]int{1, 2}, []int{2, 2}, []int{-1, 4}), api.ErrRange},
		{"a counter of the first row before sums", of([]int{1, -2}, []int{2, 2}), api.ErrRange},
	}
	for _, wide := range []int{0, -1, api.MaxWide + 1, math.MinInt, math.MaxInt} {
		list = append(list, badSketch{fmt.Sprint("width ", wide), api.Sketch{Wide: wide, Counts: [][]int{{0}}}, api.ErrRange})
	}
	list = append(list, badSketch{"width 0 with a row of 0", api.Sketch{Wide: 0, Counts: [][]int{{}}}, api.ErrRange},
		badSketch{"width and rows of 65", empty(2, api.MaxWide+1), api.ErrRange})
	for _, count := range []int{-1, api.MaxCount + 1, math.MinInt, math.MaxInt} {
		list = append(list,
			badSketch{fmt.Sprint("first counter ", count), of([]int{count, 0}), api.ErrRange},
			badSketch{fmt.Sprint("last counter ", count), of([]int{0, 1, 2}, []int{0, 3, count}), api.ErrRange},
			badSketch{fmt.Sprint("all counters ", count), flat(3, 4, count), api.ErrRange})
	}
	return list
}

// D1.

func TestCheckRefuses(t *testing.T) {
	for _, c := range badSketches() {
		if got := sketch.Check(c.s); got != c.want {
			t.Errorf("Check, %s: %d, want %d", c.name, got, c.want)
		}
	}
}

func TestCheckAccepts(t *testing.T) {
	source := rand.New(rand.NewSource(1))
	everySize(func(rows, wide int) {
		for _, s := range []api.Sketch{
			empty(rows, wide), flat(rows, wide, 1), flat(rows, wide, api.MaxCount), randomSketch(source, rows, wide, 20, 1000),
		} {
			if got := sketch.Check(s); got != api.OK {
				t.Errorf("Check(%v) = %d, want OK", s, got)
			}
		}
	})
	// The rows need the same sum, not the same counters.
	for _, s := range []api.Sketch{of([]int{1, 2, 3}, []int{0, 0, 6}, []int{6, 0, 0}), of([]int{api.MaxCount, 0}, []int{1, api.MaxCount - 1})} {
		if got := sketch.Check(s); got != api.OK {
			t.Errorf("Check(%v) = %d, want OK", s, got)
		}
	}
}

func TestAllFunctionsFirstReturnTheErrorOfCheck(t *testing.T) {
	good := of([]int{1, 2}, []int{2, 1})
	for _, c := range badSketches() {
		for _, key := range append(tooLong(), "a", "") {
			for _, many := range append(outOfRange(), 1, api.MaxCount) {
				got, err := sketch.Add(c.s, key, many)
				wantError(t, "Add, "+c.name, got, err, c.want)
			}
			n, err := sketch.Estimate(c.s, key)
			wantNoNumber(t, "Estimate, "+c.name, n, err, c.want)
		}
		got, err := sketch.Halve(c.s)
		wantError(t, "Halve, "+c.name, got, err, c.want)
		n, err := sketch.Total(c.s)
		wantNoNumber(t, "Total, "+c.name, n, err, c.want)
		got, err = sketch.Merge(c.s, good)
		wantError(t, "Merge, first "+c.name, got, err, c.want)
		got, err = sketch.Merge(good, c.s)
		wantError(t, "Merge, second "+c.name, got, err, c.want)
		// Where both are refused, the first one counts.
		for _, other := range badSketches() {
			got, err := sketch.Merge(c.s, other.s)
			wantError(t, "Merge, "+c.name+", "+other.name, got, err, c.want)
		}
	}
}

// D2.

func TestAddToKnownSketches(t *testing.T) {
	for _, c := range []struct {
		s    api.Sketch
		key  string
		many int
		want api.Sketch
	}{
		{empty(2, 4), "a", 5, of([]int{5, 0, 0, 0}, []int{0, 0, 5, 0})},
		{of([]int{5, 0, 0, 0}, []int{0, 0, 5, 0}), "c", 2, of([]int{5, 2, 0, 0}, []int{2, 0, 5, 0})},
		{of([]int{5, 2, 0, 0}, []int{2, 0, 5, 0}), "a", 1, of([]int{6, 2, 0, 0}, []int{2, 0, 6, 0})},
		{empty(1, 1), "anything", api.MaxCount, of([]int{api.MaxCount})},
		{of([]int{7}, []int{7}, []int{7}), "", 3, of([]int{10}, []int{10}, []int{10})},
	} {
		got, err := sketch.Add(c.s, c.key, c.many)
		wantSketch(t, fmt.Sprintf("Add(%v, %q, %d)", c.s, c.key, c.many), got, err, c.want)
	}
}

func TestAddFollowsTheDocument(t *testing.T) {
	source := rand.New(rand.NewSource(2))
	everySize(func(rows, wide int) {
		for _, key := range keys() {
			s := randomSketch(source, rows, wide, source.Intn(20), 1000)
			many := 1 + source.Intn(1000)
			want := clone(s)
			for row := range rows {
				want.Counts[row][slowPlace(wide, key, row)] += many
			}
			got, err := sketch.Add(s, key, many)
			wantSketch(t, fmt.Sprintf("Add(%v, %q, %d)", s, key, many), got, err, want)
			if err := sketch.Check(got); err != api.OK {
				t.Errorf("Check of the result of Add = %d, want OK", err)
			}
		}
	})
}

func TestEstimateFollowsTheDocument(t *testing.T) {
	source := rand.New(rand.NewSource(3))
	smallest := map[int]bool{}
	everySize(func(rows, wide int) {
		for _, key := range keys() {
			s := randomSketch(source, rows, wide, source.Intn(200), 1000)
			var own []int
			for row := range rows {
				own = append(own, s.Counts[row][slowPlace(wide, key, row)])
			}
			want := slices.Min(own)
			smallest[slices.Index(own, want)] = true
			got, err := sketch.Estimate(s, key)
			wantNumber(t, fmt.Sprintf("Estimate(%v, %q)", s, key), got, err, want)
		}
	})
	if len(smallest) != api.MaxRows {
		t.Errorf("the smallest counter was only in the rows %v", smallest)
	}
}

func TestEstimateOfKnownSketches(t *testing.T) {
	s := of([]int{5, 2, 0, 0}, []int{2, 0, 5, 0})
	for key, want := range map[string]int{"a": 5, "b": 5, "c": 2} {
		got, err := sketch.Estimate(s, key)
		wantNumber(t, "Estimate of "+key, got, err, want)
	}
	everySize(func(rows, wide int) {
		for _, count := range []int{0, 1, api.MaxCount} {
			got, err := sketch.Estimate(flat(rows, wide, count), "a")
			wantNumber(t, fmt.Sprintf("Estimate where all counters are %d", count), got, err, count)
		}
	})
}

func TestLongKeysAreRefused(t *testing.T) {
	for _, s := range []api.Sketch{empty(1, 1), empty(2, 4), flat(api.MaxRows, api.MaxWide, api.MaxCount)} {
		for _, key := range tooLong() {
			what := fmt.Sprintf("of %d bytes", len(key))
			n, err := sketch.Estimate(s, key)
			wantNoNumber(t, "Estimate "+what, n, err, api.ErrMany)
			// The error of the key comes before those of the number.
			for _, many := range append(outOfRange(), 1, api.MaxCount) {
				got, err := sketch.Add(s, key, many)
				wantError(t, "Add "+what, got, err, api.ErrMany)
			}
		}
	}
}

func TestAddRefusesNumbersOutOfRange(t *testing.T) {
	// In the last sketch all numbers that may be added are too many: that error comes later.
	for _, s := range []api.Sketch{empty(1, 1), of([]int{5, 2}, []int{4, 3}), flat(api.MaxRows, api.MaxWide, api.MaxCount)} {
		for _, key := range keys() {
			for _, many := range outOfRange() {
				got, err := sketch.Add(s, key, many)
				wantError(t, fmt.Sprintf("Add(%q, %d)", key, many), got, err, api.ErrRange)
			}
		}
	}
}

func TestAddFillsCountersUpToMaxCount(t *testing.T) {
	everySize(func(rows, wide int) {
		for _, key := range []string{"a", "b", ""} {
			for _, many := range []int{1, 2, 1000, api.MaxCount - 1, api.MaxCount} {
				s, err := sketch.Add(flat(rows, wide, api.MaxCount-many), key, many)
				if err != api.OK {
					t.Fatalf("Add of %d, up to MaxCount: error %d", many, err)
				}
				for row := range rows {
					if got := s.Counts[row][slowPlace(wide, key, row)]; got != api.MaxCount {
						t.Errorf("Add of %d, up to MaxCount: %d", many, got)
					}
				}
				got, err := sketch.Add(flat(rows, wide, api.MaxCount-many+1), key, many)
				wantError(t, fmt.Sprintf("Add of %d, beyond MaxCount", many), got, err, api.ErrFull)
			}
			got, err := sketch.Add(flat(rows, wide, api.MaxCount), key, api.MaxCount)
			wantError(t, "Add of MaxCount to MaxCount", got, err, api.ErrFull)
		}
	})
}

// oneFull returns a sketch whose rows have the sum MaxCount: in one of them a
// single counter has all of it, in the others it is distributed so that no key
// has a counter above MaxCount/2.
func oneFull(rows, wide, full, at int) api.Sketch {
	s := empty(rows, wide)
	for row := range rows {
		s.Counts[row][0], s.Counts[row][1] = api.MaxCount/2, api.MaxCount/2
	}
	s.Counts[full][0], s.Counts[full][1] = 0, 0
	s.Counts[full][at] = api.MaxCount
	return s
}

func TestAddIsFullIfOneCounterIs(t *testing.T) {
	const wide = 16
	for rows := 1; rows <= api.MaxRows; rows++ {
		for row := range rows {
			for _, key := range keys() {
				at := slowPlace(wide, key, row)
				got, err := sketch.Add(oneFull(rows, wide, row, at), key, 1)
				wantError(t, fmt.Sprintf("Add(%q) with a full counter in row %d", key, row), got, err, api.ErrFull)
				// A full counter of other keys does not matter.
				other := oneFull(rows, wide, row, (at+1)%wide)
				if _, err := sketch.Add(other, key, 1); err != api.OK {
					t.Errorf("Add(%q) beside a full counter in row %d: error %d", key, row, err)
				}
			}
		}
	}
}

func TestSketchesNeverUnderestimate(t *testing.T) {
	source := rand.New(rand.NewSource(4))
	everySize(func(rows, wide int) {
		s, added, all := empty(rows, wide), map[string]int{}, 0
		for range 60 {
			key, many := keys()[source.Intn(len(keys()))], 1+source.Intn(50)
			var err api.Errno
			if s, err = sketch.Add(s, key, many); err != api.OK {
				t.Fatalf("Add: error %d", err)
			}
			added[key] += many
			all += many
		}
		for _, key := range keys() {
			if got, err := sketch.Estimate(s, key); err != api.OK || got < added[key] || got > all {
				t.Errorf("%d rows of %d: Estimate(%q) = %d, %d; it was added %d of %d times", rows, wide, key, got, err, added[key], all)
			}
		}
		got, err := sketch.Total(s)
		wantNumber(t, "Total", got, err, all)
	})
}

func TestEstimatesAreCloseInAWideSketch(t *testing.T) {
	s := empty(api.MaxRows, api.MaxWide)
	for i, key := range keys() {
		s, _ = sketch.Add(s, key, 1+i)
	}
	exact := 0
	for i, key := range keys() {
		if got, _ := sketch.Estimate(s, key); got == 1+i {
			exact++
		}
	}
	if exact < len(keys())*3/4 {
		t.Errorf("of %d estimates only %d are exact", len(keys()), exact)
	}
}

// D3.

func TestMergeOfKnownSketches(t *testing.T) {
	for _, c := range []struct{ a, b, want api.Sketch }{
		{of([]int{0}), of([]int{0}), of([]int{0})},
		{of([]int{1, 2}), of([]int{30, 40}), of([]int{31, 42})},
		{of([]int{5, 0, 0, 0}, []int{0, 0, 5, 0}), of([]int{5, 2, 0, 0}, []int{2, 0, 5, 0}), of([]int{10, 2, 0, 0}, []int{2, 0, 10, 0})},
		{of([]int{1, 2}, []int{3, 0}), empty(2, 2), of([]int{1, 2}, []int{3, 0})},
		{of([]int{api.MaxCount - 1, 0}), of([]int{1, api.MaxCount}), of([]int{api.MaxCount, api.MaxCount})},
	} {
		got, err := sketch.Merge(c.a, c.b)
		wantSketch(t, fmt.Sprintf("Merge(%v, %v)", c.a, c.b), got, err, c.want)
		got, err = sketch.Merge(c.b, c.a)
		wantSketch(t, fmt.Sprintf("Merge(%v, %v)", c.b, c.a), got, err, c.want)
	}
}

func TestMergeAddsCounterByCounter(t *testing.T) {
	source := rand.New(rand.NewSource(5))
	everySize(func(rows, wide int) {
		a := randomSketch(source, rows, wide, source.Intn(50), 1000)
		b := randomSketch(source, rows, wide, source.Intn(50), 1000)
		want := empty(rows, wide)
		for row := range rows {
			for at := range wide {
				want.Counts[row][at] = a.Counts[row][at] + b.Counts[row][at]
			}
		}
		got, err := sketch.Merge(a, b)
		wantSketch(t, fmt.Sprintf("Merge(%v, %v)", a, b), got, err, want)
		if err := sketch.Check(got); err != api.OK {
			t.Errorf("Check of the result of Merge = %d, want OK", err)
		}
	})
}

func TestMergeIsTheSketchOfAllThatWasAdded(t *testing.T) {
	everySize(func(rows, wide int) {
		a, b, all := empty(rows, wide), empty(rows, wide), empty(rows, wide)
		for i, key := range keys() {
			if i%3 == 0 {
				a, _ = sketch.Add(a, key, 1+i)
			} else {
				b, _ = sketch.Add(b, key, 1+i)
			}
			all, _ = sketch.Add(all, key, 1+i)
		}
		got, err := sketch.Merge(a, b)
		wantSketch(t, "Merge", got, err, all)
	})
}

func TestMergeRefusesUnlikeSketches(t *testing.T) {
	for _, c := range [][2]api.Sketch{
		{empty(2, 4), empty(1, 4)},
		{empty(2, 4), empty(2, 3)},
		{empty(2, 4), empty(4, 2)},
		{empty(1, 1), empty(api.MaxRows, api.MaxWide)},
		{of([]int{3, 0}), of([]int{3, 0}, []int{1, 2})},
		{of([]int{3}), of([]int{3, 0})},
		// This error comes before that of counters that are too great.
		{flat(2, 4, api.MaxCount), flat(1, 4, api.MaxCount)},
		{flat(2, 4, api.MaxCount), flat(2, 3, api.MaxCount)},
	} {
		got, err := sketch.Merge(c[0], c[1])
		wantError(t, fmt.Sprintf("Merge(%v, %v)", c[0], c[1]), got, err, api.ErrKind)
		got, err = sketch.Merge(c[1], c[0])
		wantError(t, fmt.Sprintf("Merge(%v, %v)", c[1], c[0]), got, err, api.ErrKind)
	}
}

func TestMergeRefusesCountersBeyondMaxCount(t *testing.T) {
	everySize(func(rows, wide int) {
		for _, count := range []int{0, 1, api.MaxCount / 2, api.MaxCount} {
			got, err := sketch.Merge(flat(rows, wide, count), flat(rows, wide, api.MaxCount-count))
			wantSketch(t, "Merge up to MaxCount", got, err, flat(rows, wide, api.MaxCount))
			if count > 0 {
				got, err = sketch.Merge(flat(rows, wide, count), flat(rows, wide, api.MaxCount-count+1))
				wantError(t, "Merge beyond MaxCount", got, err, api.ErrFull)
			}
		}
	})
	// One counter is enough, wherever it is.
	for rows := 1; rows <= api.MaxRows; rows++ {
		for row := range rows {
			for at := range 4 {
				full := oneFull(rows, 4, row, at)
				one := empty(rows, 4)
				for i := range rows {
					one.Counts[i][at] = 1
				}
				got, err := sketch.Merge(full, one)
				wantError(t, fmt.Sprintf("Merge with a full counter %d in row %d", at, row), got, err, api.ErrFull)
				got, err = sketch.Merge(one, full)
				wantError(t, fmt.Sprintf("Merge with a full counter %d in row %d", at, row), got, err, api.ErrFull)
			}
		}
	}
}

// Halve and Total, which have no numbers in the document.

func TestHalveOfKnownSketches(t *testing.T) {
	for _, c := range []struct{ s, want api.Sketch }{
		{of([]int{4, 3}, []int{5, 2}), of([]int{2, 1}, []int{2, 1})},
		{of([]int{0, 1, 2, 3, 4, 5}), of([]int{0, 0, 1, 1, 2, 2})},
		{of([]int{1}), of([]int{0})},
		{of([]int{1, 1}, []int{1, 1}), of([]int{0, 0}, []int{0, 0})},
		{of([]int{3, 1, 0}, []int{1, 1, 2}), of([]int{1, 0, 0}, []int{0, 0, 1})},
		{flat(api.MaxRows, api.MaxWide, api.MaxCount), flat(api.MaxRows, api.MaxWide, api.MaxCount/2)},
		{flat(2, 3, api.MaxCount-1), flat(2, 3, api.MaxCount/2-1)},
	} {
		got, err := sketch.Halve(c.s)
		wantSketch(t, fmt.Sprintf("Halve(%v)", c.s), got, err, c.want)
	}
}

func TestHalveRefusesSumsThatWouldDiffer(t *testing.T) {
	for _, s := range []api.Sketch{
		of([]int{4, 4}, []int{5, 3}),
		of([]int{1, 1}, []int{2, 0}),
		of([]int{2, 2}, []int{4, 0}, []int{3, 1}),
		of([]int{3, 1}, []int{4, 0}, []int{2, 2}),
		of([]int{2, 2}, []int{3, 1}, []int{4, 0}),
	} {
		got, err := sketch.Halve(s)
		wantError(t, fmt.Sprintf("Halve(%v)", s), got, err, api.ErrState)
	}
}

func TestHalveFollowsTheDocument(t *testing.T) {
	source := rand.New(rand.NewSource(6))
	count := map[api.Errno]int{}
	everySize(func(rows, wide int) {
		for range 10 {
			s := randomSketch(source, rows, wide, 1+source.Intn(6), 10)
			half, sums := empty(rows, wide), map[int]bool{}
			for row := range rows {
				sum := 0
				for at, n := range s.Counts[row] {
					half.Counts[row][at] = (n - n%2) / 2
					sum += half.Counts[row][at]
				}
				sums[sum] = true
			}
			got, err := sketch.Halve(s)
			count[err]++
			if len(sums) == 1 {
				wantSketch(t, fmt.Sprintf("Halve(%v)", s), got, err, half)
			} else {
				wantError(t, fmt.Sprintf("Halve(%v)", s), got, err, api.ErrState)
			}
		}
	})
	if count[api.OK] < 50 || count[api.ErrState] < 50 {
		t.Errorf("not all cases were tested: %v", count)
	}
}

func TestTotalIsTheSumOfTheFirstRow(t *testing.T) {
	for _, c := range []struct {
		s    api.Sketch
		want int
	}{
		{of([]int{1, 2, 3}), 6},
		{of([]int{1, 2, 3}, []int{6, 0, 0}), 6},
		{of([]int{5, 2, 0, 0}, []int{2, 0, 5, 0}), 7},
		{empty(1, 1), 0},
		{empty(api.MaxRows, api.MaxWide), 0},
		// The total may exceed MaxCount.
		{flat(1, 1, api.MaxCount), api.MaxCount},
		{flat(api.MaxRows, api.MaxWide, api.MaxCount), 1 << 46},
	} {
		got, err := sketch.Total(c.s)
		wantNumber(t, fmt.Sprintf("Total(%v)", c.s), got, err, c.want)
	}
}

// P2.

// spare is a sketch whose rows, and the list of them, have spare capacity; all
// returns everything in its memory.
func spare(rows ...[]int) (s api.Sketch, all func() string) {
	counts := make([][]int, 0, len(rows)+2)
	for _, row := range rows {
		counts = append(counts, append(slices.Clone(row), 91, 92, 93)[:len(row)])
	}
	counts = append(counts, []int{94}, []int{95})[:len(rows)]
	return api.Sketch{Wide: len(rows[0]), Counts: counts}, func() string {
		var whole [][]int
		for _, row := range counts[:cap(counts)] {
			whole = append(whole, row[:cap(row)])
		}
		return fmt.Sprint(whole)
	}
}

// overwrite fills the whole memory of a result.
func overwrite(s api.Sketch) {
	rows := s.Counts[:cap(s.Counts)]
	for _, row := range rows {
		row = row[:cap(row)]
		for i := range row {
			row[i] = -7
		}
	}
	clear(rows)
}

func TestSketchesAreNeitherChangedNorShared(t *testing.T) {
	a, wholeA := spare([]int{4, 3, 0}, []int{5, 0, 2})
	b, wholeB := spare([]int{1, 0, 2}, []int{0, 0, 3})
	beforeA, beforeB := wholeA(), wholeB()
	for name, run := range map[string]func() (api.Sketch, api.Errno){
		"Add":               func() (api.Sketch, api.Errno) { return sketch.Add(a, "a", 1) },
		"Merge":             func() (api.Sketch, api.Errno) { return sketch.Merge(a, b) },
		"Merge with itself": func() (api.Sketch, api.Errno) { return sketch.Merge(a, a) },
		"Halve":             func() (api.Sketch, api.Errno) { return sketch.Halve(a) },
	} {
		got, err := run()
		if err != api.OK {
			t.Errorf("%s: error %d", name, err)
		}
		overwrite(got)
		if wholeA() != beforeA || wholeB() != beforeB {
			t.Fatalf("%s changes its argument: %s, %s", name, wholeA(), wholeB())
		}
	}
	sketch.Check(a)
	sketch.Estimate(a, "a")
	sketch.Total(a)
	sketch.Add(a, "a", api.MaxCount)
	if wholeA() != beforeA {
		t.Errorf("Check, Estimate, Total or Add changes its argument: %s", wholeA())
	}
}

func TestRowsOfAResultDoNotShareMemory(t *testing.T) {
	s := flat(3, 2, 4)
	// Arguments may share memory between their rows; results do not.
	s.Counts[1], s.Counts[2] = s.Counts[0], s.Counts[0]
	for name, run := range map[string]func() (api.Sketch, api.Errno){
		"Add":   func() (api.Sketch, api.Errno) { return sketch.Add(s, "a", 1) },
		"Merge": func() (api.Sketch, api.Errno) { return sketch.Merge(s, s) },
		"Halve": func() (api.Sketch, api.Errno) { return sketch.Halve(s) },
	} {
		got, err := run()
		if err != api.OK {
			t.Errorf("%s: error %d", name, err)
		}
		want := clone(got)
		for i := range got.Counts {
			row := got.Counts[i][:cap(got.Counts[i])]
			for at := range row {
				row[at] = -7
			}
			for j := i + 1; j < len(got.Counts); j++ {
				if !slices.Equal(got.Counts[j], want.Counts[j]) {
					t.Errorf("%s: row %d shares memory with row %d", name, i, j)
				}
			}
		}
	}
}
