package workset_test

import (
	"fmt"
	"maps"
	"math"
	"math/rand"
	"slices"
	"testing"

	"slopchest/api"
	"slopchest/distance"
	"slopchest/lru"
	"slopchest/workset"
)

// keys is a list of keys, or of other numbers.
func keys(list ...int) []int { return list }

// upTo are the keys 0 to many - 1.
func upTo(many int) []int {
	list := make([]int, many)
	for i := range list {
		list[i] = i
	}
	return list
}

// same is a list of so many times one number.
func same(number, many int) []int {
	return slices.Repeat(keys(number), many)
}

// around are the keys 0 to kinds - 1 over and over, as many as a trace may have.
func around(kinds int) []int {
	return slices.Repeat(upTo(kinds), api.MaxTrace)[:api.MaxTrace]
}

// multiples are 0 and the multiples of a number below MaxTrace.
func multiples(number int) []int {
	var list []int
	for n := 0; n < api.MaxTrace; n += number {
		list = append(list, n)
	}
	return list
}

// notNumbers are neither windows nor numbers of keys in common.
func notNumbers() []int {
	return keys(0, -1, api.MaxTrace+1, -api.MaxTrace, math.MinInt, math.MaxInt, 1<<32, 1<<32+1)
}

// someNumbers are windows, or numbers of keys in common.
func someNumbers() []int {
	return keys(1, 2, 3, 5, 10, 39, 40, 41, 100, api.MaxTrace-1, api.MaxTrace)
}

func wantSet(t *testing.T, trace []int, at, window int, want []int) {
	t.Helper()
	if got, err := workset.Set(trace, at, window); !slices.Equal(got, want) || err != api.OK {
		t.Errorf("Set(%v, %d, %d) = %v, %d; want %v, OK", trace, at, window, got, err, want)
	}
}

func wantSizes(t *testing.T, trace []int, window int, want []int) {
	t.Helper()
	if got, err := workset.Sizes(trace, window); !slices.Equal(got, want) || err != api.OK {
		t.Errorf("Sizes(%v, %d) = %v, %d; want %v, OK", trace, window, got, err, want)
	}
}

func wantFaults(t *testing.T, trace []int, window, want int) {
	t.Helper()
	if got, err := workset.Faults(trace, window); got != want || err != api.OK {
		t.Errorf("Faults(%v, %d) = %d, %d; want %d, OK", trace, window, got, err, want)
	}
}

func wantPhases(t *testing.T, trace []int, window, least int, want []int) {
	t.Helper()
	if got, err := workset.Phases(trace, window, least); !slices.Equal(got, want) || err != api.OK {
		t.Errorf("Phases(%v, %d, %d) = %v, %d; want %v, OK", trace, window, least, got, err, want)
	}
}

func wantSetError(t *testing.T, what string, trace []int, at, window int, want api.Errno) {
	t.Helper()
	if got, err := workset.Set(trace, at, window); len(got) != 0 || err != want {
		t.Errorf("Set at %d with window %d, %s: %v, %d; want no keys, %d", at, window, what, got, err, want)
	}
}

func wantSizesError(t *testing.T, what string, trace []int, window int, want api.Errno) {
	t.Helper()
	if got, err := workset.Sizes(trace, window); len(got) != 0 || err != want {
		t.Errorf("Sizes with window %d, %s: %v, %d; want no sizes, %d", window, what, got, err, want)
	}
}

func wantFaultsError(t *testing.T, what string, trace []int, window int, want api.Errno) {
	t.Helper()
	if got, err := workset.Faults(trace, window); got != 0 || err != want {
		t.Errorf("Faults with window %d, %s: %d, %d; want 0, %d", window, what, got, err, want)
	}
}

func wantPhasesError(t *testing.T, what string, trace []int, window, least int, want api.Errno) {
	t.Helper()
	if got, err := workset.Phases(trace, window, least); len(got) != 0 || err != want {
		t.Errorf("Phases with window %d and least %d, %s: %v, %d; want no phases, %d", window, least, what, got, err, want)
	}
}

// badTrace is a trace that lru.CheckTrace refuses.
type badTrace struct {
	name  string
	trace []int
	want  api.Errno
}

// badTraces are traces with each of the errors of lru.CheckTrace, alone and with others.
func badTraces() []badTrace {
	list := []badTrace{
		{"a key too many", upTo(api.MaxTrace + 1), api.ErrMany},
		{"a key too many, all equal", make([]int, api.MaxTrace+1), api.ErrMany},
		{"very many keys", make([]int, 1<<16), api.ErrMany},
	}
	for _, key := range keys(-1, api.MaxKey+1, -api.MaxKey, math.MinInt, math.MaxInt, 1<<32, 1<<32+1) {
		for _, at := range keys(0, 1, 100, api.MaxTrace-1) {
			trace := upTo(api.MaxTrace)
			trace[at] = key
			list = append(list, badTrace{fmt.Sprintf("key %d at %d", key, at), trace, api.ErrRange},
				badTrace{fmt.Sprintf("many before key %d at %d", key, at), append(slices.Clone(trace), 1), api.ErrMany})
		}
		list = append(list, badTrace{fmt.Sprint("only key ", key), keys(key), api.ErrRange})
	}
	return list
}

// goodTraces are traces that lru.CheckTrace accepts: with no keys, with few and with as many as possible.
func goodTraces() [][]int {
	return [][]int{nil, {}, {1}, {1, 2, 1, 3}, upTo(api.MaxTrace), make([]int, api.MaxTrace)}
}

// someTraces are traces of several lengths and with several numbers of kinds of keys: some stay with a few keys for a while.
func someTraces(source *rand.Rand, many int) [][]int {
	list := append(goodTraces(), keys(0, api.MaxKey, 0), around(2), around(7), around(api.MaxTrace/2))
	for range many {
		trace, kinds := make([]int, source.Intn(api.MaxTrace+1)), 1+source.Intn(30)
		from, stay := 0, 1+source.Intn(api.MaxTrace)
		for i := range trace {
			if source.Intn(stay) == 0 {
				from = source.Intn(60)
			}
			trace[i] = from + source.Intn(kinds)
		}
		list = append(list, trace)
	}
	return list
}

// slowSet goes backward from an index and collects the keys.
func slowSet(trace []int, at, window int) map[int]bool {
	set := map[int]bool{}
	for j := at; j >= 0 && j > at-window; j-- {
		set[trace[j]] = true
	}
	return set
}

// slowSizes counts how often each key is in a window that moves along the trace.
func slowSizes(trace []int, window int) []int {
	var sizes []int
	times := map[int]int{}
	for i, key := range trace {
		times[key]++
		if i >= window {
			gone := trace[i-window]
			times[gone]--
			if times[gone] == 0 {
				delete(times, gone)
			}
		}
		sizes = append(sizes, len(times))
	}
	return sizes
}

// slowFaults compares the distance to the preceding access of the same key with the window.
func slowFaults(trace []int, window int) int {
	faults, before := 0, map[int]int{}
	for i, key := range trace {
		if index, found := before[key]; !found || i-index > window {
			faults++
		}
		before[key] = i
	}
	return faults
}

// slowPhases asks at each index whether a phase begins.
func slowPhases(trace []int, window, least int) []int {
	var begins []int
	for i := range trace {
		if i == 0 {
			begins = append(begins, i)
			continue
		}
		begin := begins[len(begins)-1]
		both := slowSet(trace, i, window)
		other := slowSet(trace, begin, window)
		maps.DeleteFunc(both, func(key int, _ bool) bool { return !other[key] })
		if i-begin >= window && len(both) < least {
			begins = append(begins, i)
		}
	}
	return begins
}

// L1, Set.

func TestSetOfTheExample(t *testing.T) {
	wantSet(t, keys(1, 2, 1, 3), 3, 2, keys(1, 3))
}

func TestSetContainsEachKeyOnceAndInIncreasingOrder(t *testing.T) {
	trace := keys(9, 3, api.MaxKey, 3, 0, 0, 7, 3)
	wantSet(t, trace, 7, 1, keys(3))
	wantSet(t, trace, 7, 2, keys(3, 7))
	wantSet(t, trace, 7, 3, keys(0, 3, 7))
	wantSet(t, trace, 7, 5, keys(0, 3, 7))
	wantSet(t, trace, 7, 6, keys(0, 3, 7, api.MaxKey))
	wantSet(t, trace, 7, 7, keys(0, 3, 7, api.MaxKey))
	wantSet(t, trace, 7, 8, keys(0, 3, 7, 9, api.MaxKey))
	wantSet(t, same(5, api.MaxTrace), api.MaxTrace-1, api.MaxTrace, keys(5))
}

func TestSetEndsWithItsIndex(t *testing.T) {
	trace := keys(4, 3, 2, 1)
	wantSet(t, trace, 0, 2, keys(4))
	wantSet(t, trace, 1, 2, keys(3, 4))
	wantSet(t, trace, 2, 2, keys(2, 3))
	wantSet(t, trace, 3, 2, keys(1, 2))
	for at, key := range trace {
		wantSet(t, trace, at, 1, keys(key))
	}
}

func TestSetOfAWindowBeforeTheTraceHasFewerAccesses(t *testing.T) {
	for _, window := range keys(1, 2, 3, 4, 5, 100, api.MaxTrace) {
		wantSet(t, keys(6), 0, window, keys(6))
		wantSet(t, keys(6, 5, 4), 0, window, keys(6))
	}
	wantSet(t, keys(6, 5, 4), 2, 3, keys(4, 5, 6))
	wantSet(t, keys(6, 5, 4), 2, 4, keys(4, 5, 6))
	wantSet(t, keys(6, 5, 4), 2, api.MaxTrace, keys(4, 5, 6))
}

func TestSetOfTheLongestTrace(t *testing.T) {
	trace := upTo(api.MaxTrace)
	for at := range trace {
		for window := 1; window <= api.MaxTrace; window++ {
			wantSet(t, trace, at, window, trace[max(0, at-window+1):at+1])
		}
	}
}

func TestSetFollowsTheDocument(t *testing.T) {
	for _, trace := range someTraces(rand.New(rand.NewSource(1)), 100) {
		for _, window := range someNumbers() {
			for at := range trace {
				wantSet(t, trace, at, window, slices.Sorted(maps.Keys(slowSet(trace, at, window))))
			}
		}
	}
}

func TestALargerWindowContainsASmallerOne(t *testing.T) {
	for _, trace := range someTraces(rand.New(rand.NewSource(2)), 10) {
		for at := 0; at < len(trace); at += 13 {
			smaller := keys()
			for window := 1; window <= api.MaxTrace; window++ {
				larger, err := workset.Set(trace, at, window)
				for _, key := range smaller {
					if !slices.Contains(larger, key) {
						t.Errorf("Set(%v, %d, %d) = %v, %d: without key %d", trace, at, window, larger, err, key)
					}
				}
				if err != api.OK || len(larger) > len(smaller)+1 || len(larger) > window {
					t.Errorf("Set(%v, %d, %d) = %v, %d; with the window before it %v", trace, at, window, larger, err, smaller)
				}
				smaller = larger
			}
		}
	}
}

// A cache of chapter 6 with room for the working set contains the same keys.
func TestSetIsWhatACacheOfItsSizeContains(t *testing.T) {
	for _, trace := range someTraces(rand.New(rand.NewSource(3)), 20) {
		for at := range trace {
			for _, window := range keys(1, 2, 10, api.MaxRoom) {
				got, _ := workset.Set(trace, at, window)
				c, _, err := lru.Run(api.Cache{Room: max(1, len(got))}, trace[:at+1])
				slices.Sort(c.Keys)
				if err != api.OK || !slices.Equal(got, c.Keys) {
					t.Errorf("Set(%v, %d, %d) = %v; a cache of this size contains %v, %d", trace, at, window, got, c.Keys, err)
				}
			}
		}
	}
}

func TestSetRefusesNumbersThatAreNoIndices(t *testing.T) {
	for _, trace := range goodTraces() {
		for _, at := range keys(-1, len(trace), len(trace)+1, -len(trace)-1, api.MaxTrace, math.MinInt, math.MaxInt, 1<<32) {
			for _, window := range someNumbers() {
				wantSetError(t, fmt.Sprintf("%d keys", len(trace)), trace, at, window, api.ErrRange)
			}
		}
	}
}

func TestSetRefusesBadWindows(t *testing.T) {
	for _, trace := range goodTraces() {
		for _, window := range notNumbers() {
			for _, at := range keys(0, 1, len(trace)-1, len(trace), -1, math.MinInt, math.MaxInt) {
				wantSetError(t, fmt.Sprintf("%d keys", len(trace)), trace, at, window, api.ErrRange)
			}
		}
	}
}

func TestSetFirstReturnsTheErrorOfCheckTrace(t *testing.T) {
	for _, b := range badTraces() {
		for _, at := range keys(0, 1, -1, len(b.trace)-1, len(b.trace), math.MinInt, math.MaxInt) {
			for _, window := range append(notNumbers(), 1, 2, api.MaxTrace) {
				wantSetError(t, b.name, b.trace, at, window, b.want)
			}
		}
	}
}

// L1, Sizes.

func TestSizesOfTheExample(t *testing.T) {
	trace := keys(1, 2, 1, 3)
	wantSizes(t, trace, 1, keys(1, 1, 1, 1))
	wantSizes(t, trace, 2, keys(1, 2, 2, 2))
	wantSizes(t, trace, 3, keys(1, 2, 2, 3))
	wantSizes(t, trace, 4, keys(1, 2, 2, 3))
	wantSizes(t, trace, api.MaxTrace, keys(1, 2, 2, 3))
}

func TestSizesOfTheEmptyTrace(t *testing.T) {
	for _, window := range someNumbers() {
		wantSizes(t, nil, window, nil)
		wantSizes(t, keys(), window, nil)
	}
}

func TestSizesGrowAndShrink(t *testing.T) {
	wantSizes(t, keys(1, 2, 3, 3, 3, 3, 4, 3, 4), 3, keys(1, 2, 3, 2, 1, 1, 2, 2, 2))
	wantSizes(t, keys(0, api.MaxKey, 0, 0), 2, keys(1, 2, 2, 1))
}

func TestSizesOfTheLongestTraces(t *testing.T) {
	for window := 1; window <= api.MaxTrace; window++ {
		wantSizes(t, same(api.MaxKey, api.MaxTrace), window, same(1, api.MaxTrace))
		for _, kinds := range keys(1, 2, 50, api.MaxTrace-1, api.MaxTrace) {
			want := make([]int, api.MaxTrace)
			for i := range want {
				want[i] = min(i+1, window, kinds)
			}
			wantSizes(t, around(kinds), window, want)
		}
	}
}

func TestSizesFollowsTheDocument(t *testing.T) {
	for _, trace := range someTraces(rand.New(rand.NewSource(4)), 200) {
		for _, window := range someNumbers() {
			wantSizes(t, trace, window, slowSizes(trace, window))
		}
	}
}

func TestSizesAreThoseOfSet(t *testing.T) {
	for _, trace := range someTraces(rand.New(rand.NewSource(5)), 10) {
		for _, window := range someNumbers() {
			want := make([]int, len(trace))
			for at := range trace {
				set, _ := workset.Set(trace, at, window)
				want[at] = len(set)
			}
			wantSizes(t, trace, window, want)
		}
	}
}

func TestSizesRefusesBadWindows(t *testing.T) {
	for _, trace := range goodTraces() {
		for _, window := range notNumbers() {
			wantSizesError(t, fmt.Sprintf("%d keys", len(trace)), trace, window, api.ErrRange)
		}
	}
}

func TestSizesFirstReturnsTheErrorOfCheckTrace(t *testing.T) {
	for _, b := range badTraces() {
		for _, window := range append(notNumbers(), 1, 2, api.MaxTrace) {
			wantSizesError(t, b.name, b.trace, window, b.want)
		}
	}
}

// L2.

func TestFaultsOfTheExample(t *testing.T) {
	trace := keys(1, 2, 1, 3)
	wantFaults(t, trace, 2, 3)
	wantFaults(t, trace, 1, 4)
	wantFaults(t, trace, 3, 3)
	wantFaults(t, trace, api.MaxTrace, 3)
}

func TestFaultsOfTheEmptyTrace(t *testing.T) {
	for _, window := range someNumbers() {
		wantFaults(t, nil, window, 0)
		wantFaults(t, keys(), window, 0)
	}
}

func TestTheFirstAccessIsAFault(t *testing.T) {
	for _, window := range someNumbers() {
		for _, key := range keys(0, 1, api.MaxKey) {
			wantFaults(t, keys(key), window, 1)
			wantFaults(t, same(key, api.MaxTrace), window, 1)
		}
	}
}

func TestAKeyIsAFaultAgainOnceItLeftTheWindow(t *testing.T) {
	// From one access to 0 to the next there are as many accesses as there are kinds.
	for kinds := 1; kinds <= api.MaxTrace; kinds++ {
		for _, window := range keys(1, kinds-1, kinds, kinds+1, api.MaxTrace) {
			if window < 1 || window > api.MaxTrace {
				continue
			}
			want := api.MaxTrace
			if window >= kinds {
				want = kinds
			}
			wantFaults(t, around(kinds), window, want)
		}
	}
	// The window counts accesses, and not keys.
	wantFaults(t, keys(1, 2, 2, 2, 1), 2, 3)
	wantFaults(t, keys(1, 2, 2, 2, 1), 3, 3)
	wantFaults(t, keys(1, 2, 2, 2, 1), 4, 2)
	// An access that is no fault moves the key to the end of the window, too.
	wantFaults(t, keys(1, 2, 1, 3, 1, 2), 2, 4)
	wantFaults(t, keys(1, 2, 1, 3, 1, 2), 4, 3)
}

func TestFaultsFollowsTheDocument(t *testing.T) {
	for _, trace := range someTraces(rand.New(rand.NewSource(6)), 200) {
		for window := 1; window <= api.MaxTrace; window++ {
			wantFaults(t, trace, window, slowFaults(trace, window))
		}
	}
}

func TestFaultsAreAccessesToKeysThatAreNotInSet(t *testing.T) {
	for _, trace := range someTraces(rand.New(rand.NewSource(7)), 10) {
		for _, window := range someNumbers() {
			want := min(1, len(trace))
			for i := 1; i < len(trace); i++ {
				if set, _ := workset.Set(trace, i-1, window); !slices.Contains(set, trace[i]) {
					want++
				}
			}
			wantFaults(t, trace, window, want)
		}
	}
}

// What is no fault has a stack distance that is no greater than the window.
func TestFaultsAreNoFewerThanTheMissesOfACache(t *testing.T) {
	for _, trace := range someTraces(rand.New(rand.NewSource(8)), 60) {
		misses, _ := distance.Misses(trace)
		for i, least := range misses {
			if got, err := workset.Faults(trace, i+1); got < least || err != api.OK {
				t.Errorf("Faults(%v, %d) = %d, %d; a cache with this room has %d misses", trace, i+1, got, err, least)
			}
		}
	}
}

func TestFaultsRefusesBadWindows(t *testing.T) {
	for _, trace := range goodTraces() {
		for _, window := range notNumbers() {
			wantFaultsError(t, fmt.Sprintf("%d keys", len(trace)), trace, window, api.ErrRange)
		}
	}
}

func TestFaultsFirstReturnsTheErrorOfCheckTrace(t *testing.T) {
	for _, b := range badTraces() {
		for _, window := range append(notNumbers(), 1, 2, api.MaxTrace) {
			wantFaultsError(t, b.name, b.trace, window, b.want)
		}
	}
}

// L3.

func TestPhasesOfTheExample(t *testing.T) {
	trace := keys(1, 1, 2, 2)
	wantPhases(t, trace, 2, 1, keys(0, 3))
	wantPhases(t, trace, 2, 2, keys(0, 2))
	wantPhases(t, trace, 1, 1, keys(0, 2))
	wantPhases(t, trace, 1, 2, keys(0, 1, 2, 3))
	wantPhases(t, trace, 3, 1, keys(0))
	wantPhases(t, trace, 3, 2, keys(0, 3))
	wantPhases(t, trace, 4, api.MaxTrace, keys(0))
}

// The document lets a phase begin at index 0, which the empty trace does not have.
func TestPhasesOfTheEmptyTrace(t *testing.T) {
	for _, window := range someNumbers() {
		for _, least := range someNumbers() {
			wantPhases(t, nil, window, least, nil)
			wantPhases(t, keys(), window, least, nil)
		}
	}
}

func TestAPhaseBeginsAtTheFirstIndex(t *testing.T) {
	for _, window := range someNumbers() {
		for _, least := range someNumbers() {
			wantPhases(t, keys(0), window, least, keys(0))
			wantPhases(t, keys(api.MaxKey), window, least, keys(0))
		}
		// Without other keys there is one in common always.
		wantPhases(t, same(1, api.MaxTrace), window, 1, keys(0))
	}
}

func TestAPhaseHasAtLeastAsManyAccessesAsTheWindow(t *testing.T) {
	for window := 1; window <= api.MaxTrace; window++ {
		// Nothing is in common as soon as the windows do not overlap.
		wantPhases(t, upTo(api.MaxTrace), window, 1, multiples(window))
		wantPhases(t, upTo(api.MaxTrace), window, api.MaxTrace, multiples(window))
		// There cannot be two keys in common if there is only one.
		wantPhases(t, same(1, api.MaxTrace), window, 2, multiples(window))
	}
	for _, window := range keys(1, 2, 3, 10, api.MaxTrace-1) {
		// Working sets have no more keys than the window has accesses.
		wantPhases(t, around(7), window, window+1, multiples(window))
	}
}

func TestAPhaseIsComparedWithTheBeginningOfTheCurrentOne(t *testing.T) {
	// The sets at index 0 and 2 have one key in common, those at 2 and all later ones two.
	wantPhases(t, keys(1, 2, 1, 2, 1, 2, 1, 2), 2, 2, keys(0, 2))
	// Each set has a key in common with the one before it, but not with the one of the beginning.
	wantPhases(t, keys(1, 1, 2, 3, 4, 5), 2, 1, keys(0, 3, 5))
	// The set at index 3 is that of a new phase, so that the keys of the first one do not count any more.
	wantPhases(t, keys(1, 1, 2, 2, 2, 1, 1, 1), 2, 1, keys(0, 3, 6))
	// Key 2 was accessed inside of the first phase, but is not in the set at its beginning.
	wantPhases(t, keys(1, 2, 1, 2, 2), 2, 1, keys(0, 4))
}

func TestAPhaseBeginsLaterThanItCould(t *testing.T) {
	// A phase may begin at every index from 2, but does so only after key 1 left the window; the next one may begin at 8.
	wantPhases(t, keys(1, 1, 1, 1, 1, 2, 2, 3, 3, 3), 2, 1, keys(0, 6, 8))
	// The set at index 4 has the keys 1 to 4; those at 8, 9, 10 and 11 still have three, two, one and none of them.
	trace := append(keys(1, 2, 3, 4), upTo(15)[1:]...)
	wantPhases(t, trace, 4, 4, keys(0, 4, 8, 12, 16))
	wantPhases(t, trace, 4, 3, keys(0, 4, 9, 13, 17))
	wantPhases(t, trace, 4, 2, keys(0, 4, 10, 14))
	// That at 0 has only key 1.
	wantPhases(t, trace, 4, 1, keys(0, 8, 12, 16))
}

func TestPhasesFollowsTheDocument(t *testing.T) {
	for _, trace := range someTraces(rand.New(rand.NewSource(9)), 60) {
		for _, window := range keys(1, 2, 3, 5, 8, 13, 21, 40, 100, api.MaxTrace-1, api.MaxTrace) {
			for _, least := range keys(1, 2, 3, 4, 6, 9, 20, api.MaxTrace) {
				wantPhases(t, trace, window, least, slowPhases(trace, window, least))
			}
		}
	}
}

func TestPhasesOfShortTracesFollowsTheDocument(t *testing.T) {
	const kinds, many = 3, 7
	for number := range 2187 {
		trace := make([]int, many)
		for i := range trace {
			trace[i], number = number%kinds, number/kinds
		}
		for window := 1; window <= many; window++ {
			for least := 1; least <= kinds+1; least++ {
				wantPhases(t, trace, window, least, slowPhases(trace, window, least))
			}
		}
	}
}

func TestPhasesRefusesBadWindows(t *testing.T) {
	for _, trace := range goodTraces() {
		for _, window := range notNumbers() {
			for _, least := range append(notNumbers(), 1, 2, api.MaxTrace) {
				wantPhasesError(t, fmt.Sprintf("%d keys", len(trace)), trace, window, least, api.ErrRange)
			}
		}
	}
}

func TestPhasesRefusesBadNumbersOfKeys(t *testing.T) {
	for _, trace := range goodTraces() {
		for _, least := range notNumbers() {
			for _, window := range someNumbers() {
				wantPhasesError(t, fmt.Sprintf("%d keys", len(trace)), trace, window, least, api.ErrRange)
			}
		}
	}
}

func TestPhasesFirstReturnsTheErrorOfCheckTrace(t *testing.T) {
	for _, b := range badTraces() {
		for _, window := range append(notNumbers(), 1, api.MaxTrace) {
			for _, least := range append(notNumbers(), 1, api.MaxTrace) {
				wantPhasesError(t, b.name, b.trace, window, least, b.want)
			}
		}
	}
}

// P2.

// lists are calls for a trace that return a list.
func lists(trace []int) map[string]func() ([]int, api.Errno) {
	calls := map[string]func() ([]int, api.Errno){}
	for _, window := range keys(1, 2, 3, api.MaxTrace) {
		for at := range trace {
			calls[fmt.Sprintf("Set at %d with window %d", at, window)] = func() ([]int, api.Errno) { return workset.Set(trace, at, window) }
		}
		calls[fmt.Sprint("Sizes with window ", window)] = func() ([]int, api.Errno) { return workset.Sizes(trace, window) }
		calls[fmt.Sprint("Phases with window ", window)] = func() ([]int, api.Errno) { return workset.Phases(trace, window, 2) }
	}
	return calls
}

func TestArgumentsAreNeitherChangedNorShared(t *testing.T) {
	long := keys(4, 2, 3, 1, 1, 4, 2, 0, -5, -6)
	before := fmt.Sprint(long)
	for many := range len(long) - 1 {
		trace := long[:many]
		for name, run := range lists(trace) {
			got, err := run()
			if err != api.OK || fmt.Sprint(long) != before {
				t.Fatalf("%s of %d keys: error %d; the arguments are now %v", name, many, err, long)
			}
			spare := got[:cap(got)]
			for i := range spare {
				spare[i] = -8
			}
			if fmt.Sprint(long) != before {
				t.Fatalf("%s of %d keys returns memory of its argument: %v", name, many, long)
			}
		}
		if _, err := workset.Faults(trace, 2); err != api.OK || fmt.Sprint(long) != before {
			t.Fatalf("Faults of %d keys: error %d; the arguments are now %v", many, err, long)
		}
	}
	for name, run := range lists(long) {
		if _, err := run(); err != api.ErrRange || fmt.Sprint(long) != before {
			t.Errorf("%s of no trace: error %d; the arguments are now %v", name, err, long)
		}
	}
}
