// Package rules tests the general rules P1 to P4 of the document, across the packages that are built.
package rules

import (
	"fmt"
	"math"
	"slices"
	"strings"
	"sync"
	"testing"
	"unsafe"

	"slopchest/api"
	"slopchest/bloom"
	"slopchest/clock"
	"slopchest/distance"
	"slopchest/expire"
	"slopchest/greedy"
	"slopchest/hash"
	"slopchest/lfu"
	"slopchest/lru"
	"slopchest/optimal"
	"slopchest/rate"
	"slopchest/ring"
	"slopchest/segment"
	"slopchest/shard"
	"slopchest/sketch"
	"slopchest/table"
	"slopchest/wheel"
	"slopchest/workset"
)

// call is one call with its arguments bound; it returns its results, the error last.
type call struct {
	name string
	run  func() (results []any, err api.Errno)
}

// hashCalls are calls of package hash with ordinary, extreme and invalid arguments.
func hashCalls() []call {
	var calls []call
	add := func(name string, run func() ([]any, api.Errno)) {
		calls = append(calls, call{name, run})
	}
	numbers := []uint64{0, 1, 1<<32 - 1, 1 << 32, 1 << 63, math.MaxUint64}
	for _, text := range []string{"", "a", "\xff\x00", strings.Repeat("k", 40), strings.Repeat("k", 41), strings.Repeat("\xff", 1<<20)} {
		add(fmt.Sprintf("Sum of %d bytes", len(text)), func() ([]any, api.Errno) {
			sum, err := hash.Sum(text)
			return []any{sum}, err
		})
		for _, n := range numbers {
			add(fmt.Sprintf("Salted of %d bytes, %d", len(text), n), func() ([]any, api.Errno) {
				sum, err := hash.Salted(text, n)
				return []any{sum}, err
			})
		}
	}
	for _, n := range numbers {
		add(fmt.Sprintf("Mix and Unmix of %d", n), func() ([]any, api.Errno) {
			return []any{hash.Mix(n), hash.Unmix(n)}, api.OK
		})
		for _, most := range []int{math.MinInt, -1, 0, 1, 10, api.MaxKey, api.MaxKey + 1, math.MaxInt} {
			add(fmt.Sprintf("Reduce(%d, %d)", n, most), func() ([]any, api.Errno) {
				k, err := hash.Reduce(n, most)
				return []any{k}, err
			})
		}
	}
	return calls
}

// tables are lists of slots, some of which package table refuses.
func tables() [][]api.Slot {
	full := make([]api.Slot, api.MaxSlots)
	for i := range full {
		full[i] = api.Slot{Used: true, Key: fmt.Sprint("k", i), Value: i}
	}
	one := []api.Slot{{Used: true, Key: "a", Value: 1}}
	long := []api.Slot{{Used: true, Key: strings.Repeat("k", api.MaxText+1)}}
	return [][]api.Slot{
		nil, {}, make([]api.Slot, 1), make([]api.Slot, api.MaxSlots), make([]api.Slot, api.MaxSlots+1),
		full, full[:40], one, long, {{Key: "a"}}, {{Value: 1}}, {one[0], one[0]}, {{}, one[0]}, {{}, {}, {}, one[0]},
		{{Used: true, Key: "a", Value: math.MinInt}},
	}
}

// tableCalls are calls of package table with ordinary, extreme and invalid arguments.
func tableCalls() []call {
	var calls []call
	for i, list := range tables() {
		add := func(name string, run func() ([]any, api.Errno)) {
			calls = append(calls, call{fmt.Sprintf("table.%s of table %d", name, i), run})
		}
		add("Check", func() ([]any, api.Errno) { return nil, table.Check(list) })
		for _, key := range []string{"", "a", "k7", "\xff\x00", strings.Repeat("k", 40), strings.Repeat("k", 41)} {
			add(fmt.Sprintf("Get %q", key), func() ([]any, api.Errno) {
				value, probes, err := table.Get(list, key)
				return []any{value, probes}, err
			})
			for _, value := range []int{math.MinInt, -api.MaxValue, 0, api.MaxValue, api.MaxValue + 1, math.MaxInt} {
				add(fmt.Sprintf("Put %q, %d", key, value), func() ([]any, api.Errno) {
					got, err := table.Put(list, key, value)
					return []any{got}, err
				})
			}
			add(fmt.Sprintf("Delete %q", key), func() ([]any, api.Errno) {
				got, err := table.Delete(list, key)
				return []any{got}, err
			})
		}
		for _, slots := range []int{math.MinInt, -1, 0, 1, 40, api.MaxSlots, api.MaxSlots + 1, math.MaxInt} {
			add(fmt.Sprintf("Resize to %d", slots), func() ([]any, api.Errno) {
				got, err := table.Resize(list, slots)
				return []any{got}, err
			})
		}
	}
	return calls
}

// filters are filters, some of which package bloom refuses.
func filters() []api.Filter {
	all := make([]int, api.MaxSize)
	for i := range all {
		all[i] = i
	}
	return []api.Filter{
		{}, {Size: 1, Hashes: 1}, {Size: 16, Hashes: 3, Set: []int{}}, {Size: 16, Hashes: 3, Set: []int{0, 4, 8}},
		{Size: 16, Hashes: 2, Set: []int{15}}, {Size: 15, Hashes: 3, Set: all[:15]},
		{Size: api.MaxSize, Hashes: api.MaxHashes, Set: all}, {Size: api.MaxSize + 1, Hashes: 1, Set: all},
		{Size: 4, Hashes: api.MaxHashes + 1}, {Size: 4, Hashes: 1, Set: all}, {Size: 4, Hashes: 1, Set: []int{2, 1}},
		{Size: 4, Hashes: 1, Set: []int{math.MinInt, math.MaxInt}}, {Size: math.MinInt, Hashes: math.MinInt},
		{Size: math.MaxInt, Hashes: math.MaxInt, Set: all},
	}
}

// bloomCalls are calls of package bloom with ordinary, extreme and invalid arguments.
func bloomCalls() []call {
	var calls []call
	for i, f := range filters() {
		add := func(name string, run func() ([]any, api.Errno)) {
			calls = append(calls, call{fmt.Sprintf("bloom.%s of filter %d", name, i), run})
		}
		add("Check", func() ([]any, api.Errno) { return nil, bloom.Check(f) })
		for _, text := range []string{"", "a", "\xff\x00", strings.Repeat("k", 40), strings.Repeat("k", 41)} {
			add(fmt.Sprintf("Bits %q", text), func() ([]any, api.Errno) {
				got, err := bloom.Bits(f, text)
				return []any{got}, err
			})
			add(fmt.Sprintf("Add %q", text), func() ([]any, api.Errno) {
				got, err := bloom.Add(f, text)
				return []any{got}, err
			})
			add(fmt.Sprintf("MayContain %q", text), func() ([]any, api.Errno) {
				got, err := bloom.MayContain(f, text)
				return []any{got}, err
			})
		}
		for j, other := range filters() {
			add(fmt.Sprintf("Union with filter %d", j), func() ([]any, api.Errno) {
				got, err := bloom.Union(f, other)
				return []any{got}, err
			})
		}
		add("Fold", func() ([]any, api.Errno) {
			got, err := bloom.Fold(f)
			return []any{got}, err
		})
	}
	return calls
}

// sketches are sketches, some of which package sketch refuses.
func sketches() []api.Sketch {
	great := make([][]int, api.MaxRows)
	for i := range great {
		great[i] = slices.Repeat([]int{api.MaxCount}, api.MaxWide)
	}
	return []api.Sketch{
		{}, {Wide: 1, Counts: [][]int{}}, {Wide: 1, Counts: [][]int{{0}}}, {Wide: 2, Counts: [][]int{{1, 2}, {3, 0}}},
		{Wide: 2, Counts: [][]int{{4, 4}, {5, 3}}}, {Wide: 3, Counts: [][]int{{1, 2, 3}}},
		{Wide: api.MaxWide, Counts: great}, {Wide: api.MaxWide + 1, Counts: great},
		{Wide: api.MaxWide, Counts: append(great[:1:1], great...)}, {Wide: 2, Counts: [][]int{nil, {1, 2}}},
		{Wide: 2, Counts: [][]int{{1, 2}, {1}}}, {Wide: 2, Counts: [][]int{{1, 2}, {2, 2}}},
		{Wide: 2, Counts: [][]int{{math.MinInt, math.MaxInt}}}, {Wide: 2, Counts: [][]int{{math.MaxInt, math.MaxInt}}},
		{Wide: math.MinInt, Counts: [][]int{nil}}, {Wide: math.MaxInt, Counts: great},
	}
}

// sketchCalls are calls of package sketch with ordinary, extreme and invalid arguments.
func sketchCalls() []call {
	var calls []call
	for i, s := range sketches() {
		add := func(name string, run func() ([]any, api.Errno)) {
			calls = append(calls, call{fmt.Sprintf("sketch.%s of sketch %d", name, i), run})
		}
		add("Check", func() ([]any, api.Errno) { return nil, sketch.Check(s) })
		for _, key := range []string{"", "a", "\xff\x00", strings.Repeat("k", 40), strings.Repeat("k", 41)} {
			add(fmt.Sprintf("Estimate %q", key), func() ([]any, api.Errno) {
				got, err := sketch.Estimate(s, key)
				return []any{got}, err
			})
			for _, many := range []int{math.MinInt, 0, 1, api.MaxCount, api.MaxCount + 1, math.MaxInt} {
				add(fmt.Sprintf("Add %q, %d", key, many), func() ([]any, api.Errno) {
					got, err := sketch.Add(s, key, many)
					return []any{got}, err
				})
			}
		}
		for j, other := range sketches() {
			add(fmt.Sprintf("Merge with sketch %d", j), func() ([]any, api.Errno) {
				got, err := sketch.Merge(s, other)
				return []any{got}, err
			})
		}
		add("Halve", func() ([]any, api.Errno) {
			got, err := sketch.Halve(s)
			return []any{got}, err
		})
		add("Total", func() ([]any, api.Errno) {
			got, err := sketch.Total(s)
			return []any{got}, err
		})
	}
	return calls
}

// inSlot is a wheel with timers in one slot only.
func inSlot(now, slot int, list ...api.Timer) api.Wheel {
	w := api.Wheel{Now: now, Slots: make([][]api.Timer, api.Places)}
	w.Slots[slot] = list
	return w
}

// wheels are wheels, some of which package wheel refuses.
func wheels() []api.Wheel {
	var full []api.Timer
	for id := range api.MaxTimers + 1 {
		full = append(full, api.Timer{Id: id, At: 8})
	}
	return []api.Wheel{
		{}, {Slots: make([][]api.Timer, api.Places-1)}, {Slots: make([][]api.Timer, api.Places+1)},
		{Slots: make([][]api.Timer, api.Places)}, {Now: api.MaxTime, Slots: make([][]api.Timer, api.Places)},
		{Now: math.MinInt, Slots: make([][]api.Timer, api.Places)}, {Now: math.MaxInt, Slots: make([][]api.Timer, api.Places)},
		inSlot(0, 9, full[:3]...), inSlot(5, 9, full[:api.MaxTimers]...), inSlot(0, 9, full...), inSlot(8, 9, full[:3]...), inSlot(0, 8, full[:3]...),
		inSlot(0, 9, full[0], full[0]), inSlot(0, 9, full[1], full[0]), inSlot(0, 9, full[1], api.Timer{Id: 1, At: 9}),
		inSlot(0, 47, api.Timer{Id: api.MaxKey, At: api.MaxTime}), inSlot(0, 47, api.Timer{Id: math.MaxInt, At: math.MaxInt}),
		inSlot(0, 0, api.Timer{Id: math.MinInt, At: math.MinInt}), inSlot(0, 0, api.Timer{}),
	}
}

// wheelCalls are calls of package wheel with ordinary, extreme and invalid arguments.
func wheelCalls() []call {
	var calls []call
	numbers := []int{math.MinInt, -1, 0, 1, 2, 7, 8, 9, 70, api.MaxTime, api.MaxTime + 1, api.MaxKey + 1, math.MaxInt}
	for _, now := range numbers {
		calls = append(calls, call{fmt.Sprintf("wheel.New(%d)", now), func() ([]any, api.Errno) {
			got, err := wheel.New(now)
			return []any{got}, err
		}})
	}
	for i, w := range wheels() {
		add := func(name string, run func() ([]any, api.Errno)) {
			calls = append(calls, call{fmt.Sprintf("wheel.%s of wheel %d", name, i), run})
		}
		add("Check", func() ([]any, api.Errno) { return nil, wheel.Check(w) })
		for _, n := range numbers {
			for _, at := range numbers {
				add(fmt.Sprintf("Add %d, %d", n, at), func() ([]any, api.Errno) {
					got, err := wheel.Add(w, api.Timer{Id: n, At: at})
					return []any{got}, err
				})
			}
			add(fmt.Sprintf("Cancel %d", n), func() ([]any, api.Errno) {
				got, err := wheel.Cancel(w, n)
				return []any{got}, err
			})
			add(fmt.Sprintf("Advance to %d", n), func() ([]any, api.Errno) {
				got, expired, err := wheel.Advance(w, n)
				return []any{got, expired}, err
			})
		}
		add("Next", func() ([]any, api.Errno) {
			got, err := wheel.Next(w)
			return []any{got}, err
		})
	}
	return calls
}

// caches are caches, some of which package lru refuses.
func caches() []api.Cache {
	full := make([]int, api.MaxRoom+1)
	for i := range full {
		full[i] = i
	}
	return []api.Cache{
		{}, {Room: 1}, {Room: 1, Keys: []int{}}, {Room: 1, Keys: []int{0}}, {Room: 3, Keys: []int{1, 2, 0}}, {Room: 4, Keys: []int{1, 2, 0}},
		{Room: api.MaxRoom}, {Room: api.MaxRoom, Keys: full[:api.MaxRoom]}, {Room: api.MaxRoom, Keys: full},
		{Room: api.MaxRoom + 1, Keys: full}, {Room: 2, Keys: []int{api.MaxKey, 0}}, {Room: 2, Keys: []int{1, 1}},
		{Room: 2, Keys: []int{math.MinInt, math.MaxInt}}, {Room: math.MinInt, Keys: full}, {Room: math.MaxInt, Keys: full},
		{Room: math.MaxInt}, {Keys: []int{1}},
	}
}

// traces are traces, some of which package lru refuses.
func traces() [][]int {
	return [][]int{
		nil, {}, {1}, {1, 2, 1, 3, 0, 2}, {0, api.MaxKey}, {0, api.MaxKey + 1}, {-1}, {math.MinInt}, {1, math.MaxInt},
		make([]int, api.MaxTrace), make([]int, api.MaxTrace+1), slices.Repeat([]int{-1}, api.MaxTrace+1), make([]int, 1<<16),
	}
}

// lruCalls are calls of package lru with ordinary, extreme and invalid arguments.
func lruCalls() []call {
	var calls []call
	for i, trace := range traces() {
		calls = append(calls, call{fmt.Sprintf("lru.CheckTrace of trace %d", i), func() ([]any, api.Errno) { return nil, lru.CheckTrace(trace) }})
	}
	for i, c := range caches() {
		add := func(name string, run func() ([]any, api.Errno)) {
			calls = append(calls, call{fmt.Sprintf("lru.%s of cache %d", name, i), run})
		}
		add("Check", func() ([]any, api.Errno) { return nil, lru.Check(c) })
		for _, n := range []int{math.MinInt, -1, 0, 1, 2, api.MaxRoom, api.MaxRoom + 1, api.MaxKey, api.MaxKey + 1, math.MaxInt} {
			add(fmt.Sprintf("Access %d", n), func() ([]any, api.Errno) {
				got, hit, evicted, err := lru.Access(c, n)
				return []any{got, hit, evicted}, err
			})
			add(fmt.Sprintf("Resize to %d", n), func() ([]any, api.Errno) {
				got, evicted, err := lru.Resize(c, n)
				return []any{got, evicted}, err
			})
		}
		for j, trace := range traces() {
			add(fmt.Sprintf("Run with trace %d", j), func() ([]any, api.Errno) {
				got, hits, err := lru.Run(c, trace)
				return []any{got, hits}, err
			})
		}
	}
	return calls
}

// clocks are clocks, some of which package clock refuses.
func clocks() []api.Clock {
	full := make([]api.Frame, api.MaxRoom+1)
	for i := range full {
		full[i] = api.Frame{Key: i, Used: true}
	}
	three := []api.Frame{{Key: 1}, {Key: 2, Used: true}, {Key: 0}}
	return []api.Clock{
		{}, {Room: 1}, {Room: 1, Frames: []api.Frame{}}, {Room: 1, Hand: 1}, {Room: 1, Frames: full[:1]}, {Room: 3, Hand: 1, Frames: three},
		{Room: 4, Hand: 2, Frames: three}, {Room: 4, Hand: 3, Frames: three}, {Room: 4, Hand: -1, Frames: three}, {Room: 2, Frames: three},
		{Room: api.MaxRoom}, {Room: api.MaxRoom, Hand: api.MaxRoom - 1, Frames: full[:api.MaxRoom]}, {Room: api.MaxRoom, Frames: full},
		{Room: api.MaxRoom + 1, Frames: full}, {Room: 2, Frames: []api.Frame{{Key: 1}, {Key: 1, Used: true}}},
		{Room: 2, Frames: []api.Frame{{Key: math.MinInt}, {Key: math.MaxInt}}}, {Room: 3, Hand: math.MinInt, Frames: three},
		{Room: 3, Hand: math.MaxInt, Frames: three}, {Room: math.MinInt, Frames: full}, {Room: math.MaxInt, Hand: math.MaxInt, Frames: full},
	}
}

// clockCalls are calls of package clock with ordinary, extreme and invalid arguments.
func clockCalls() []call {
	var calls []call
	for i, c := range clocks() {
		add := func(name string, run func() ([]any, api.Errno)) {
			calls = append(calls, call{fmt.Sprintf("clock.%s of clock %d", name, i), run})
		}
		add("Check", func() ([]any, api.Errno) { return nil, clock.Check(c) })
		for _, key := range []int{math.MinInt, -1, 0, 1, 2, api.MaxRoom, api.MaxKey, api.MaxKey + 1, math.MaxInt} {
			add(fmt.Sprintf("Access %d", key), func() ([]any, api.Errno) {
				got, hit, evicted, err := clock.Access(c, key)
				return []any{got, hit, evicted}, err
			})
		}
		for j, trace := range traces() {
			add(fmt.Sprintf("Run with trace %d", j), func() ([]any, api.Errno) {
				got, hits, err := clock.Run(c, trace)
				return []any{got, hits}, err
			})
		}
		add("Clear", func() ([]any, api.Errno) {
			got, err := clock.Clear(c)
			return []any{got}, err
		})
	}
	return calls
}

// counted are caches with access counts, some of which package lfu refuses.
func counted() []api.Uses {
	full := make([]api.Use, api.MaxRoom+1)
	for i := range full {
		full[i] = api.Use{Key: i, Count: api.MaxCount}
	}
	three := []api.Use{{Key: 1, Count: 2}, {Key: 2, Count: 1}, {Key: 0, Count: 1}}
	return []api.Uses{
		{}, {Room: 1}, {Room: 1, List: []api.Use{}}, {Room: 1, List: full[:1]}, {Room: 3, List: three}, {Room: 4, List: three}, {Room: 2, List: three},
		{Room: api.MaxRoom}, {Room: api.MaxRoom, List: full[:api.MaxRoom]}, {Room: api.MaxRoom, List: full}, {Room: api.MaxRoom + 1, List: full},
		{Room: 2, List: []api.Use{{Key: 1, Count: 1}, {Key: 1, Count: 2}}}, {Room: 2, List: make([]api.Use, 1)}, {Room: 2, List: make([]api.Use, 2)},
		{Room: 2, List: []api.Use{{Key: math.MinInt, Count: 1}, {Key: math.MaxInt, Count: 1}}},
		{Room: 2, List: []api.Use{{Key: 1, Count: math.MinInt}}}, {Room: 2, List: []api.Use{{Key: 1, Count: math.MaxInt}}},
		{Room: 2, List: []api.Use{{Key: 1, Count: api.MaxCount + 1}}}, {Room: math.MinInt, List: full}, {Room: math.MaxInt, List: full},
	}
}

// lfuCalls are calls of package lfu with ordinary, extreme and invalid arguments.
func lfuCalls() []call {
	var calls []call
	for i, u := range counted() {
		add := func(name string, run func() ([]any, api.Errno)) {
			calls = append(calls, call{fmt.Sprintf("lfu.%s of cache %d", name, i), run})
		}
		add("Check", func() ([]any, api.Errno) { return nil, lfu.Check(u) })
		for _, key := range []int{math.MinInt, -1, 0, 1, 2, api.MaxRoom, api.MaxKey, api.MaxKey + 1, math.MaxInt} {
			add(fmt.Sprintf("Access %d", key), func() ([]any, api.Errno) {
				got, hit, evicted, err := lfu.Access(u, key)
				return []any{got, hit, evicted}, err
			})
		}
		for j, trace := range traces() {
			add(fmt.Sprintf("Run with trace %d", j), func() ([]any, api.Errno) {
				got, hits, err := lfu.Run(u, trace)
				return []any{got, hits}, err
			})
		}
		add("Age", func() ([]any, api.Errno) {
			got, err := lfu.Age(u)
			return []any{got}, err
		})
		add("Victim", func() ([]any, api.Errno) {
			got, err := lfu.Victim(u)
			return []any{got}, err
		})
	}
	return calls
}

// segmented are segmented caches, some of which package segment refuses.
func segmented() []api.Segments {
	all := make([]int, 2*api.MaxRoom+1)
	for i := range all {
		all[i] = i
	}
	first, second, many := all[:api.MaxRoom], all[api.MaxRoom:2*api.MaxRoom], all[api.MaxRoom:]
	return []api.Segments{
		{}, {First: 1, Second: 1}, {First: 1, Second: 1, New: []int{}, Old: []int{}}, {First: 1}, {Second: 1},
		{First: 1, Second: 1, New: []int{0}, Old: []int{1}}, {First: 3, Second: 2, New: []int{1, 2, 0}, Old: []int{40, 41}},
		{First: 4, Second: 3, New: []int{1, 2, 0}, Old: []int{40, 41}}, {First: 1, Second: 1, Old: []int{api.MaxKey}},
		{First: api.MaxRoom, Second: api.MaxRoom}, {First: api.MaxRoom, Second: api.MaxRoom, New: first, Old: second},
		{First: api.MaxRoom, Second: api.MaxRoom, New: first, Old: many}, {First: api.MaxRoom, Second: api.MaxRoom, New: many, Old: first},
		{First: api.MaxRoom + 1, Second: 1}, {First: 1, Second: api.MaxRoom + 1}, {First: 2, Second: 1, New: []int{1, 1}},
		{First: 1, Second: 2, Old: []int{1, 1}}, {First: 1, Second: 1, New: []int{1}, Old: []int{1}},
		{First: 2, Second: 1, New: []int{math.MinInt, math.MaxInt}}, {First: 1, Second: 2, New: []int{1}, Old: []int{math.MaxInt, 1}},
		{First: math.MinInt, Second: 1, New: all}, {First: 1, Second: math.MinInt, Old: all},
		{First: math.MaxInt, Second: math.MaxInt, New: all, Old: all},
	}
}

// segmentCalls are calls of package segment with ordinary, extreme and invalid arguments.
func segmentCalls() []call {
	var calls []call
	for i, h := range segmented() {
		add := func(name string, run func() ([]any, api.Errno)) {
			calls = append(calls, call{fmt.Sprintf("segment.%s of cache %d", name, i), run})
		}
		add("Check", func() ([]any, api.Errno) { return nil, segment.Check(h) })
		for _, key := range []int{math.MinInt, -1, 0, 1, 2, api.MaxRoom, api.MaxKey, api.MaxKey + 1, math.MaxInt} {
			add(fmt.Sprintf("Access %d", key), func() ([]any, api.Errno) {
				got, hit, evicted, err := segment.Access(h, key)
				return []any{got, hit, evicted}, err
			})
		}
		for j, trace := range traces() {
			add(fmt.Sprintf("Run with trace %d", j), func() ([]any, api.Errno) {
				got, hits, err := segment.Run(h, trace)
				return []any{got, hits}, err
			})
		}
		add("Keys", func() ([]any, api.Errno) {
			got, err := segment.Keys(h)
			return []any{got}, err
		})
	}
	return calls
}

// optimalCalls are calls of package optimal with ordinary, extreme and invalid arguments.
func optimalCalls() []call {
	var calls []call
	numbers := []int{math.MinInt, -1, 0, 1, 2, api.MaxRoom, api.MaxRoom + 1, api.MaxTrace - 1, api.MaxTrace, api.MaxTrace + 1, math.MaxInt}
	for i, trace := range traces() {
		for _, n := range numbers {
			calls = append(calls,
				call{fmt.Sprintf("optimal.Evictions of trace %d, room %d", i, n), func() ([]any, api.Errno) {
					evicted, misses, err := optimal.Evictions(trace, n)
					return []any{evicted, misses}, err
				}},
				call{fmt.Sprintf("optimal.Next of trace %d, %d", i, n), func() ([]any, api.Errno) {
					got, err := optimal.Next(trace, n)
					return []any{got}, err
				}})
		}
	}
	for _, misses := range numbers {
		for _, room := range numbers {
			for _, least := range numbers {
				calls = append(calls, call{fmt.Sprintf("optimal.Bound(%d, %d, %d)", misses, room, least), func() ([]any, api.Errno) {
					got, err := optimal.Bound(misses, room, least)
					return []any{got}, err
				}})
			}
		}
	}
	return calls
}

// distanceCalls are calls of package distance with ordinary, extreme and invalid arguments.
func distanceCalls() []call {
	var calls []call
	for i, trace := range traces() {
		add := func(name string, run func() ([]any, api.Errno)) {
			calls = append(calls, call{fmt.Sprintf("distance.%s of trace %d", name, i), run})
		}
		add("Distances", func() ([]any, api.Errno) {
			got, err := distance.Distances(trace)
			return []any{got}, err
		})
		add("Hits", func() ([]any, api.Errno) {
			got, err := distance.Hits(trace)
			return []any{got}, err
		})
		add("Misses", func() ([]any, api.Errno) {
			got, err := distance.Misses(trace)
			return []any{got}, err
		})
		for _, percent := range []int{math.MinInt, -1, 0, 1, 50, 99, 100, 101, math.MaxInt} {
			add(fmt.Sprintf("Room for %d percent", percent), func() ([]any, api.Errno) {
				got, err := distance.Room(trace, percent)
				return []any{got}, err
			})
		}
	}
	return calls
}

// worksetCalls are calls of package workset with ordinary, extreme and invalid arguments.
func worksetCalls() []call {
	var calls []call
	numbers := []int{math.MinInt, -1, 0, 1, 2, api.MaxTrace - 1, api.MaxTrace, api.MaxTrace + 1, math.MaxInt}
	for i, trace := range traces() {
		for _, window := range numbers {
			add := func(name string, run func() ([]any, api.Errno)) {
				calls = append(calls, call{fmt.Sprintf("workset.%s of trace %d, window %d", name, i, window), run})
			}
			add("Sizes", func() ([]any, api.Errno) {
				got, err := workset.Sizes(trace, window)
				return []any{got}, err
			})
			add("Faults", func() ([]any, api.Errno) {
				got, err := workset.Faults(trace, window)
				return []any{got}, err
			})
			for _, n := range numbers {
				add(fmt.Sprintf("Set at %d", n), func() ([]any, api.Errno) {
					got, err := workset.Set(trace, n, window)
					return []any{got}, err
				})
				add(fmt.Sprintf("Phases with least %d", n), func() ([]any, api.Errno) {
					got, err := workset.Phases(trace, window, n)
					return []any{got}, err
				})
			}
		}
	}
	return calls
}

// buckets are buckets, some of which package rate refuses.
func buckets() []api.Bucket {
	return []api.Bucket{
		{}, {Most: 1, Every: 1}, {Most: 5, Every: 10}, {Most: 5, Every: 10, Has: 5, At: 7}, {Most: 5, Every: 10, Has: 6},
		{Most: api.MaxTokens, Every: api.MaxTokens}, {Most: api.MaxTokens, Every: 1, Has: api.MaxTokens, At: api.MaxTick},
		{Most: 1, Every: api.MaxTokens, At: api.MaxTick}, {Most: api.MaxTokens + 1, Every: 1}, {Most: 1, Every: api.MaxTokens + 1},
		{Most: 1, Every: 1, Has: -1}, {Most: 1, Every: 1, At: -1}, {Most: 1, Every: 1, At: api.MaxTick + 1}, {Most: 1}, {Every: 1},
		{Most: math.MinInt, Every: math.MinInt, Has: math.MinInt, At: math.MinInt},
		{Most: math.MaxInt, Every: math.MaxInt, Has: math.MaxInt, At: math.MaxInt},
		{Most: 1, Every: 1, At: math.MinInt}, {Most: 1, Every: 1, Has: math.MinInt, At: math.MaxInt},
	}
}

// rateCalls are calls of package rate with ordinary, extreme and invalid arguments.
func rateCalls() []call {
	var calls []call
	ticks := []int{math.MinInt, -1, 0, 1, 7, 25, api.MaxTick, api.MaxTick + 1, math.MaxInt}
	numbers := []int{math.MinInt, -1, 0, 1, 3, api.MaxTokens, api.MaxTokens + 1, math.MaxInt}
	for _, at := range ticks {
		for _, most := range numbers {
			for _, every := range numbers {
				calls = append(calls, call{fmt.Sprintf("rate.New(%d, %d, %d)", most, every, at), func() ([]any, api.Errno) {
					got, err := rate.New(most, every, at)
					return []any{got}, err
				}})
			}
		}
	}
	for i, b := range buckets() {
		add := func(name string, run func() ([]any, api.Errno)) {
			calls = append(calls, call{fmt.Sprintf("rate.%s of bucket %d", name, i), run})
		}
		add("Check", func() ([]any, api.Errno) { return nil, rate.Check(b) })
		for _, at := range ticks {
			add(fmt.Sprintf("Advance to %d", at), func() ([]any, api.Errno) {
				got, err := rate.Advance(b, at)
				return []any{got}, err
			})
			for _, many := range numbers {
				add(fmt.Sprintf("Take %d, %d", at, many), func() ([]any, api.Errno) {
					got, taken, err := rate.Take(b, at, many)
					return []any{got, taken}, err
				})
				add(fmt.Sprintf("When %d, %d", at, many), func() ([]any, api.Errno) {
					got, err := rate.When(b, at, many)
					return []any{got}, err
				})
			}
		}
	}
	return calls
}

// stocks are caches for items of different sizes, some of which package greedy refuses.
func stocks() []api.Greedy {
	full := make([]api.Item, api.MaxItems+1)
	for i := range full {
		full[i] = api.Item{Key: i, Size: 1, Cost: api.MaxCost, Worth: api.MaxWorth}
	}
	three := []api.Item{{Key: 1, Size: 2, Cost: 3, Worth: 7}, {Key: 0, Size: 4, Worth: 5}, {Key: 2, Size: 3, Cost: 1, Worth: 5}}
	least := math.MinInt
	return []api.Greedy{
		{}, {Room: 1}, {Room: 1, Things: []api.Item{}}, {Room: 1, Things: make([]api.Item, 1)}, {Room: 9, Floor: 5, Things: three},
		{Room: 10, Things: three}, {Room: 8, Things: three}, {Room: 9, Floor: 6, Things: three}, {Room: 9, Floor: -1, Things: three},
		{Room: api.MaxSizes, Floor: api.MaxWorth}, {Room: api.MaxSizes, Floor: api.MaxWorth + 1}, {Room: api.MaxSizes + 1},
		{Room: api.MaxItems, Floor: api.MaxWorth, Things: full[:api.MaxItems]}, {Room: api.MaxSizes, Things: full}, {Room: api.MaxSizes, Things: full[:api.MaxItems]},
		{Room: 9, Things: []api.Item{three[0], three[0]}}, {Room: 9, Things: []api.Item{{Key: least, Size: least, Cost: least, Worth: least}}},
		{Room: 9, Things: []api.Item{{Key: math.MaxInt, Size: math.MaxInt, Cost: math.MaxInt, Worth: math.MaxInt}}},
		{Room: 9, Things: []api.Item{{Size: math.MaxInt}, {Key: 1, Size: 1}}}, {Room: 9, Things: []api.Item{{Size: 1, Cost: math.MaxInt}}},
		{Room: least, Floor: least, Things: full}, {Room: math.MaxInt, Floor: math.MaxInt, Things: full},
	}
}

// greedyCalls are calls of package greedy with ordinary, extreme and invalid arguments.
func greedyCalls() []call {
	var calls []call
	numbers := []int{math.MinInt, -1, 0, 1, 3, 9, api.MaxSizes, api.MaxSizes + 1, math.MaxInt}
	for i, h := range stocks() {
		add := func(name string, run func() ([]any, api.Errno)) {
			calls = append(calls, call{fmt.Sprintf("greedy.%s of cache %d", name, i), run})
		}
		add("Check", func() ([]any, api.Errno) { return nil, greedy.Check(h) })
		for _, key := range numbers {
			for _, size := range numbers {
				for _, n := range numbers {
					add(fmt.Sprintf("Access of %d, size %d, cost and worth %d", key, size, n), func() ([]any, api.Errno) {
						got, hit, evicted, err := greedy.Access(h, api.Item{Key: key, Size: size, Cost: n, Worth: n})
						return []any{got, hit, evicted}, err
					})
				}
			}
		}
		add("Total", func() ([]any, api.Errno) {
			size, cost, err := greedy.Total(h)
			return []any{size, cost}, err
		})
		add("Victim", func() ([]any, api.Errno) {
			got, err := greedy.Victim(h)
			return []any{got}, err
		})
	}
	return calls
}

// weighed are lists of shards, some of which package shard refuses.
func weighed() [][]api.Shard {
	full := make([]api.Shard, api.MaxShards+1)
	for i := range full {
		full[i] = api.Shard{Name: fmt.Sprint("s", i), Weight: api.MaxWeight}
	}
	long := strings.Repeat("n", api.MaxText+1)
	return [][]api.Shard{
		nil, {}, {{Name: "A", Weight: 1}, {Name: "B", Weight: 2}, {Name: "C", Weight: 3}}, {{Weight: 1}}, {{Name: long[1:], Weight: 8}}, {{Name: long, Weight: 1}},
		full[:1], full[:api.MaxShards], full, make([]api.Shard, 1), make([]api.Shard, api.MaxShards+1), {full[0], full[0]}, {{Name: "\xff\x00", Weight: 1}},
		{{Name: "A", Weight: math.MinInt}}, {{Name: "A", Weight: math.MaxInt}}, {full[0], {Name: "A", Weight: api.MaxWeight + 1}}, {full[0], {Name: strings.Repeat("\xff", 1<<20), Weight: 1}},
	}
}

// shardCalls are calls of package shard with ordinary, extreme and invalid arguments.
func shardCalls() []call {
	var calls []call
	texts := []string{"", "a", "\xff\x00", strings.Repeat("k", api.MaxText), strings.Repeat("k", api.MaxText+1), strings.Repeat("\xff", 1<<20)}
	for i, l := range weighed() {
		add := func(name string, run func() ([]any, api.Errno)) {
			calls = append(calls, call{fmt.Sprintf("shard.%s of list %d", name, i), run})
		}
		add("Check", func() ([]any, api.Errno) { return nil, shard.Check(l) })
		for _, key := range texts {
			if len(l) > 0 {
				add(fmt.Sprintf("Score for %d bytes, last shard", len(key)), func() ([]any, api.Errno) {
					got, err := shard.Score(l[len(l)-1], key)
					return []any{got}, err
				})
			}
			add(fmt.Sprintf("Owner for %d bytes", len(key)), func() ([]any, api.Errno) {
				got, err := shard.Owner(l, key)
				return []any{got}, err
			})
			for _, many := range []int{math.MinInt, -1, 0, 1, len(l), len(l) + 1, api.MaxShards, math.MaxInt} {
				add(fmt.Sprintf("Owners for %d bytes, %d", len(key), many), func() ([]any, api.Errno) {
					got, err := shard.Owners(l, key, many)
					return []any{got}, err
				})
			}
		}
		for j, m := range weighed() {
			for k, keys := range [][]string{nil, {}, texts[:4], texts, texts[4:], make([]string, api.MaxTrace), make([]string, api.MaxTrace+1)} {
				add(fmt.Sprintf("Moved to list %d with keys %d", j, k), func() ([]any, api.Errno) {
					got, err := shard.Moved(l, m, keys)
					return []any{got}, err
				})
			}
		}
	}
	return calls
}

// circles are lists of points, some of which package ring refuses.
func circles() [][]api.Point {
	full := make([]api.Point, api.MaxPoints+1)
	for i := range full {
		full[i] = api.Point{At: 1000 * i, Shard: i % api.MaxShards}
	}
	return [][]api.Point{
		nil, {}, full[:1], full[1:4], full[:api.MaxPoints], full, make([]api.Point, 2), make([]api.Point, 1<<16),
		{{At: 10, Shard: 1}, {At: 20, Shard: 2}}, {{}, {At: api.MaxPlace - 1, Shard: api.MaxShards - 1}}, {{At: 2}, {At: 1}},
		{{At: api.MaxPlace}}, {{Shard: api.MaxShards}}, {{At: -1, Shard: -1}}, {{At: math.MinInt, Shard: math.MinInt}},
		{{At: math.MaxInt, Shard: math.MaxInt}}, {{At: math.MaxInt}, {At: math.MinInt}}, {{At: 5}, {At: 6, Shard: math.MaxInt}},
	}
}

// ringCalls are calls of package ring with ordinary, extreme and invalid arguments.
func ringCalls() []call {
	var calls []call
	numbers := []int{math.MinInt, -1, 0, 1, 2, api.MaxShards - 1, api.MaxShards, api.MaxShards + 1, api.MaxPlace - 1, api.MaxPlace, math.MaxInt}
	places := [][]int{nil, {}, {15}, {api.MaxPlace - 2, 3}, {10}, {3, 3}, {3, -1}, {api.MaxPlace}, {math.MinInt, math.MaxInt}, make([]int, 1<<16)}
	many := make([]int, api.MaxPoints+1)
	for i := range many {
		many[i] = 1000*i + 7
	}
	places = append(places, many, many[1:], many[:api.MaxPoints-2])
	for i, l := range circles() {
		add := func(name string, run func() ([]any, api.Errno)) {
			calls = append(calls, call{fmt.Sprintf("ring.%s of list %d", name, i), run})
		}
		add("Check", func() ([]any, api.Errno) { return nil, ring.Check(l) })
		for _, n := range numbers {
			add(fmt.Sprintf("Owner %d", n), func() ([]any, api.Errno) {
				got, err := ring.Owner(l, n)
				return []any{got}, err
			})
			add(fmt.Sprintf("Shares %d", n), func() ([]any, api.Errno) {
				got, err := ring.Shares(l, n)
				return []any{got}, err
			})
			add(fmt.Sprintf("Remove %d", n), func() ([]any, api.Errno) {
				got, err := ring.Remove(l, n)
				return []any{got}, err
			})
			for j, at := range places {
				add(fmt.Sprintf("Add %d at places %d", n, j), func() ([]any, api.Errno) {
					got, err := ring.Add(l, n, at)
					return []any{got}, err
				})
			}
		}
	}
	return calls
}

// lasting are stores with times, some of which package expire refuses.
func lasting() []api.Store {
	full := make([]api.Entry, api.MaxEntries+1)
	for i := range full {
		full[i] = api.Entry{Key: 2 * i, Value: -i, Until: 10 + i}
	}
	least := math.MinInt
	return []api.Store{
		{}, {Life: 1}, {Life: api.MaxLife, Entries: []api.Entry{}}, {Life: api.MaxLife + 1}, {Life: 10, Entries: full[:3]}, {Life: 1, Entries: full[:api.MaxEntries]},
		{Life: 1, Entries: full}, {Life: 1, Entries: make([]api.Entry, 1)}, {Life: 1, Entries: make([]api.Entry, 2)}, {Life: 1, Entries: make([]api.Entry, 1<<16)},
		{Life: api.MaxLife, Entries: []api.Entry{{Key: api.MaxKey, Value: api.MaxValue, Until: api.MaxTick + api.MaxLife}}}, {Life: 1, Entries: []api.Entry{{Until: api.MaxTick + api.MaxLife + 1}}},
		{Life: 1, Entries: []api.Entry{{Value: -api.MaxValue}}}, {Life: 1, Entries: []api.Entry{{Value: -api.MaxValue - 1}}}, {Life: 1, Entries: []api.Entry{{Key: 2}, {Key: 1}}},
		{Life: 1, Entries: []api.Entry{{Key: least, Value: least, Until: least}}}, {Life: 1, Entries: []api.Entry{{Key: math.MaxInt, Value: math.MaxInt, Until: math.MaxInt}}},
		{Life: 1, Entries: []api.Entry{{Until: math.MaxInt}}}, {Life: least, Entries: full}, {Life: math.MaxInt, Entries: full[:3]},
	}
}

// expireCalls are calls of package expire with ordinary, extreme and invalid arguments.
func expireCalls() []call {
	var calls []call
	ticks := []int{math.MinInt, -1, 0, 10, 11, 60, api.MaxTick, api.MaxTick + 1, math.MaxInt}
	keys := []int{math.MinInt, -1, 0, 1, 4, api.MaxKey, api.MaxKey + 1, math.MaxInt}
	values := []int{math.MinInt, -api.MaxValue - 1, -api.MaxValue, 0, api.MaxValue, api.MaxValue + 1, math.MaxInt}
	for i, l := range lasting() {
		add := func(name string, run func() ([]any, api.Errno)) {
			calls = append(calls, call{fmt.Sprintf("expire.%s of store %d", name, i), run})
		}
		add("Check", func() ([]any, api.Errno) { return nil, expire.Check(l) })
		add("Next", func() ([]any, api.Errno) {
			got, err := expire.Next(l)
			return []any{got}, err
		})
		for _, now := range ticks {
			add(fmt.Sprintf("Sweep at %d", now), func() ([]any, api.Errno) {
				got, expired, err := expire.Sweep(l, now)
				return []any{got, expired}, err
			})
			for _, key := range keys {
				add(fmt.Sprintf("Get of %d at %d", key, now), func() ([]any, api.Errno) {
					got, found, err := expire.Get(l, key, now)
					return []any{got, found}, err
				})
				for _, value := range values {
					add(fmt.Sprintf("Put of %d, %d at %d", key, value, now), func() ([]any, api.Errno) {
						got, err := expire.Put(l, key, value, now)
						return []any{got}, err
					})
				}
			}
		}
	}
	return calls
}

// allCalls are calls of all packages that are built.
func allCalls() []call {
	return slices.Concat(hashCalls(), tableCalls(), bloomCalls(), sketchCalls(), wheelCalls(), lruCalls(), clockCalls(), lfuCalls(), segmentCalls(), optimalCalls(), distanceCalls(), worksetCalls(), rateCalls(), greedyCalls(), shardCalls(), ringCalls(), expireCalls())
}

// answer is the printed form of what a call returns.
func (c call) answer() string {
	results, err := c.run()
	return fmt.Sprint(results, int(err))
}

// P1 and the numbers of the errors.

func TestErrorsHaveTheNumbersOfTheDocument(t *testing.T) {
	for want, err := range []api.Errno{api.OK, api.ErrForm, api.ErrMany, api.ErrRange, api.ErrState, api.ErrNone, api.ErrTwice, api.ErrKind, api.ErrFull} {
		if int(err) != want {
			t.Errorf("error %d has the number %d", want, err)
		}
	}
}

func TestNoCallPanics(t *testing.T) {
	for _, c := range allCalls() {
		func() {
			defer func() {
				if r := recover(); r != nil {
					t.Errorf("%s panics: %v", c.name, r)
				}
			}()
			c.run()
		}()
	}
}

func TestErrorsComeWithZeroValues(t *testing.T) {
	failed := 0
	for _, c := range allCalls() {
		results, err := c.run()
		if err == api.OK {
			continue
		}
		failed++
		for _, r := range results {
			if !slices.Contains([]string{"0", "[]", "false", "{0 0 []}", "{0 []}", "{0 0 [] []}", "{0 0 0 0}"}, fmt.Sprint(r)) {
				t.Errorf("%s returns %v with error %d", c.name, r, err)
			}
		}
	}
	if failed == 0 {
		t.Error("no call failed: nothing was tested")
	}
}

// P2: a text that lies in a buffer shows whether a call writes to it, or beyond it, or still reads it later.

func TestArgumentsAreNeitherModifiedNorRetained(t *testing.T) {
	buffer := []byte("first key, and what lies behind it")
	before := string(buffer)
	key := unsafe.String(&buffer[0], len("first key"))
	sum, _ := hash.Sum(key)
	salted, _ := hash.Salted(key, 1)
	if string(buffer) != before {
		t.Errorf("the buffer of the key is now %q", buffer)
	}
	copy(buffer, "other key")
	for text, same := range map[string]bool{"first key": true, "other key": false} {
		if again, _ := hash.Sum(text); (again == sum) != same {
			t.Errorf("Sum(%q) = %d, of the first key %d", text, again, sum)
		}
		if again, _ := hash.Salted(text, 1); (again == salted) != same {
			t.Errorf("Salted(%q, 1) = %d, of the first key %d", text, again, salted)
		}
	}
}

// changeable returns a string whose bytes the test can change, and its bytes.
func changeable(text string) (string, []byte) {
	buffer := []byte(text)
	return unsafe.String(&buffer[0], len(buffer)), buffer
}

func TestTablesShareNoMemoryWithArguments(t *testing.T) {
	stored, storedBytes := changeable("stored key")
	added, addedBytes := changeable("added key")
	list, err := table.Put(make([]api.Slot, 5), "other key", 0)
	if err != api.OK {
		t.Fatalf("Put: error %d", err)
	}
	if list, err = table.Put(list, "stored key", 1); err != api.OK {
		t.Fatalf("Put: error %d", err)
	}
	for i := range list {
		if list[i].Key == stored {
			list[i].Key = stored
		}
	}
	put, _ := table.Put(list, added, 2)
	deleted, _ := table.Delete(list, "other key")
	resized, _ := table.Resize(list, 7)
	results := [][]api.Slot{put, deleted, resized}
	before := fmt.Sprint(results)
	clear(storedBytes)
	clear(addedBytes)
	for i := range list {
		list[i] = api.Slot{}
	}
	if after := fmt.Sprint(results); after != before {
		t.Errorf("the results were %s, and are now %s", before, after)
	}
}

func TestFiltersShareNoMemoryWithArguments(t *testing.T) {
	text, textBytes := changeable("added key")
	a := api.Filter{Size: 64, Hashes: 4, Set: []int{1, 6, 7}}
	b := api.Filter{Size: 64, Hashes: 4, Set: []int{0, 6, 63}}
	bits, _ := bloom.Bits(a, text)
	added, _ := bloom.Add(a, text)
	union, _ := bloom.Union(a, b)
	folded, _ := bloom.Fold(a)
	results := []any{bits, added, union, folded}
	before := fmt.Sprint(results)
	clear(textBytes)
	clear(a.Set)
	clear(b.Set)
	if after := fmt.Sprint(results); after != before {
		t.Errorf("the results were %s, and are now %s", before, after)
	}
}

func TestSketchesShareNoMemoryWithArguments(t *testing.T) {
	key, keyBytes := changeable("added key")
	a := api.Sketch{Wide: 3, Counts: [][]int{{4, 3, 0}, {5, 0, 2}}}
	b := api.Sketch{Wide: 3, Counts: [][]int{{1, 0, 2}, {0, 0, 3}}}
	added, _ := sketch.Add(a, key, 1)
	merged, _ := sketch.Merge(a, b)
	halved, _ := sketch.Halve(a)
	results := []any{added, merged, halved}
	before := fmt.Sprint(results)
	clear(keyBytes)
	for _, s := range []api.Sketch{a, b} {
		for _, row := range s.Counts {
			clear(row)
		}
		clear(s.Counts)
	}
	if after := fmt.Sprint(results); after != before {
		t.Errorf("the results were %s, and are now %s", before, after)
	}
}

func TestWheelsShareNoMemoryWithArguments(t *testing.T) {
	list := []api.Timer{{Id: 1, At: 8}, {Id: 2, At: 8}, {Id: 3, At: 9}}
	w := inSlot(0, 9, list...)
	added, _ := wheel.Add(w, api.Timer{Id: 4, At: 8})
	canceled, _ := wheel.Cancel(w, 2)
	advanced, expired, _ := wheel.Advance(w, 8)
	results := []any{added, canceled, advanced, expired}
	before := fmt.Sprint(results)
	clear(list)
	clear(w.Slots)
	if after := fmt.Sprint(results); after != before {
		t.Errorf("the results were %s, and are now %s", before, after)
	}
}

func TestCachesShareNoMemoryWithArguments(t *testing.T) {
	c := api.Cache{Room: 3, Keys: []int{1, 2, 3}}
	trace := []int{3, 4, 1}
	accessed, _, _, _ := lru.Access(c, 2)
	same, _, _ := lru.Run(c, nil)
	run, _, _ := lru.Run(c, trace)
	resized, evicted, _ := lru.Resize(c, 2)
	results := []any{accessed, same, run, resized, evicted}
	before := fmt.Sprint(results)
	clear(c.Keys)
	clear(trace)
	if after := fmt.Sprint(results); after != before {
		t.Errorf("the results were %s, and are now %s", before, after)
	}
}

func TestClocksShareNoMemoryWithArguments(t *testing.T) {
	c := api.Clock{Room: 3, Hand: 1, Frames: []api.Frame{{Key: 1}, {Key: 2, Used: true}, {Key: 3}}}
	trace := []int{3, 4, 1}
	accessed, _, _, _ := clock.Access(c, 2)
	replaced, _, _, _ := clock.Access(c, 5)
	same, _, _ := clock.Run(c, nil)
	run, _, _ := clock.Run(c, trace)
	cleared, _ := clock.Clear(c)
	results := []any{accessed, replaced, same, run, cleared}
	before := fmt.Sprint(results)
	clear(c.Frames)
	clear(trace)
	if after := fmt.Sprint(results); after != before {
		t.Errorf("the results were %s, and are now %s", before, after)
	}
}

func TestCountedCachesShareNoMemoryWithArguments(t *testing.T) {
	u := api.Uses{Room: 3, List: []api.Use{{Key: 1, Count: 4}, {Key: 2, Count: 1}, {Key: 3, Count: 2}}}
	trace := []int{3, 4, 1}
	accessed, _, _, _ := lfu.Access(u, 2)
	replaced, _, _, _ := lfu.Access(u, 5)
	same, _, _ := lfu.Run(u, nil)
	run, _, _ := lfu.Run(u, trace)
	aged, _ := lfu.Age(u)
	results := []any{accessed, replaced, same, run, aged}
	before := fmt.Sprint(results)
	clear(u.List)
	clear(trace)
	if after := fmt.Sprint(results); after != before {
		t.Errorf("the results were %s, and are now %s", before, after)
	}
}

func TestSegmentedCachesShareNoMemoryWithArguments(t *testing.T) {
	h := api.Segments{First: 3, Second: 2, New: []int{1, 2, 3}, Old: []int{4, 5}}
	trace := []int{3, 6, 1}
	again, _, _, _ := segment.Access(h, 5)
	promoted, _, promotedGone, _ := segment.Access(h, 2)
	inserted, _, insertedGone, _ := segment.Access(h, 6)
	same, _, _ := segment.Run(h, nil)
	run, _, _ := segment.Run(h, trace)
	keys, _ := segment.Keys(h)
	results := []any{again, promoted, promotedGone, inserted, insertedGone, same, run, keys}
	before := fmt.Sprint(results)
	clear(h.New)
	clear(h.Old)
	clear(trace)
	if after := fmt.Sprint(results); after != before {
		t.Errorf("the results were %s, and are now %s", before, after)
	}
}

func TestEvictedKeysShareNoMemoryWithTheTrace(t *testing.T) {
	trace := []int{1, 2, 3, 1, 4}
	evicted, _, _ := optimal.Evictions(trace, 2)
	whole, _, _ := optimal.Evictions(trace, 5)
	results := [][]int{evicted, whole}
	before := fmt.Sprint(results)
	clear(trace)
	if after := fmt.Sprint(results); after != before {
		t.Errorf("the results were %s, and are now %s", before, after)
	}
}

func TestDistancesShareNoMemoryWithTheTrace(t *testing.T) {
	trace := []int{1, 2, 3, 1, 1}
	distances, _ := distance.Distances(trace)
	hits, _ := distance.Hits(trace)
	misses, _ := distance.Misses(trace)
	results := [][]int{distances, hits, misses}
	before := fmt.Sprint(results)
	clear(trace)
	if after := fmt.Sprint(results); after != before {
		t.Errorf("the results were %s, and are now %s", before, after)
	}
}

func TestWorkingSetsShareNoMemoryWithTheTrace(t *testing.T) {
	trace := []int{1, 2, 3, 1, 1}
	whole, _ := workset.Set(trace, 2, 3)
	part, _ := workset.Set(trace, 4, 3)
	sizes, _ := workset.Sizes(trace, 2)
	phases, _ := workset.Phases(trace, 2, 2)
	results := [][]int{whole, part, sizes, phases}
	before := fmt.Sprint(results)
	clear(trace)
	if after := fmt.Sprint(results); after != before {
		t.Errorf("the results were %s, and are now %s", before, after)
	}
}

func TestCachesOfItemsShareNoMemoryWithArguments(t *testing.T) {
	h := api.Greedy{Room: 9, Things: []api.Item{{Key: 1, Size: 2, Cost: 3, Worth: 7}, {Key: 2, Size: 4, Worth: 5}, {Key: 3, Size: 3, Cost: 1, Worth: 6}}}
	again, _, _, _ := greedy.Access(h, api.Item{Key: 1, Size: 1})
	one, _, oneGone, _ := greedy.Access(h, api.Item{Key: 4, Size: 3})
	all, _, allGone, _ := greedy.Access(h, api.Item{Key: 4, Size: 9})
	same, _, _, _ := greedy.Access(h, api.Item{Key: 4, Size: 10})
	results := []any{again, one, oneGone, all, allGone, same}
	before := fmt.Sprint(results)
	clear(h.Things)
	if after := fmt.Sprint(results); after != before {
		t.Errorf("the results were %s, and are now %s", before, after)
	}
}

func TestShardsAndKeysAreNeitherModifiedNorRetained(t *testing.T) {
	name, nameBytes := changeable("first name, and more")
	key, keyBytes := changeable("first key, and more")
	l := []api.Shard{{Name: name[:10], Weight: 8}, {Name: "A", Weight: 8}, {Name: "B", Weight: 8}}
	keys := []string{key[:9], "x", "y"}
	results := func() string {
		score, scoreErr := shard.Score(l[0], keys[0])
		owners, ownersErr := shard.Owners(l, keys[0], 3)
		moved, movedErr := shard.Moved(l, l[1:], keys)
		return fmt.Sprint(score, owners, moved, scoreErr, ownersErr, movedErr)
	}
	first := results()
	if string(nameBytes) != "first name, and more" || string(keyBytes) != "first key, and more" {
		t.Errorf("the name is now %q, the key %q", nameBytes, keyBytes)
	}
	copy(nameBytes, "other name")
	copy(keyBytes, "other key")
	other := results()
	l[0].Name, keys[0] = "other name", "other key"
	if again := results(); again != other {
		t.Errorf("the results are %s, and in the memory of others %s", again, other)
	}
	l[0].Name, keys[0] = "first name", "first key"
	if again := results(); again != first {
		t.Errorf("the results were %s, and are now %s", first, again)
	}
}

func TestPointsShareNoMemoryWithArguments(t *testing.T) {
	l := []api.Point{{At: 10, Shard: 1}, {At: 20, Shard: 2}, {At: 30, Shard: 2}}
	places := []int{25, 5}
	inserted, _ := ring.Add(l, 3, places)
	appended, _ := ring.Add(l[:1], 3, places[:1])
	same, _ := ring.Add(l, 3, nil)
	first, _ := ring.Add(nil, 3, places)
	begin, _ := ring.Remove(l, 2)
	end, _ := ring.Remove(l, 1)
	shares, _ := ring.Shares(l, 3)
	results := []any{inserted, appended, same, first, begin, end, shares}
	before := fmt.Sprint(results)
	clear(l)
	clear(places)
	if after := fmt.Sprint(results); after != before {
		t.Errorf("the results were %s, and are now %s", before, after)
	}
}

func TestStoresShareNoMemoryWithArguments(t *testing.T) {
	l := api.Store{Life: 10, Entries: []api.Entry{{Key: 3, Value: 1, Until: 30}, {Key: 5, Value: 2, Until: 20}, {Key: 8, Value: 3, Until: 40}}}
	first, _ := expire.Put(l, 1, 4, 0)
	last, _ := expire.Put(l, 9, 4, 0)
	replaced, _ := expire.Put(l, 5, 4, 0)
	swept, _ := expire.Put(l, 5, 4, 30)
	same, none, _ := expire.Sweep(l, 0)
	some, one, _ := expire.Sweep(l, 20)
	empty, all, _ := expire.Sweep(l, 40)
	results := []any{first, last, replaced, swept, same, none, some, one, empty, all}
	before := fmt.Sprint(results)
	clear(l.Entries)
	if after := fmt.Sprint(results); after != before {
		t.Errorf("the results were %s, and are now %s", before, after)
	}
}

// P3: the answers are the same in any order, after any other calls, and at the same time.

func TestAnswersDependOnlyOnArguments(t *testing.T) {
	calls := allCalls()
	first := make([]string, len(calls))
	for i, c := range calls {
		first[i] = c.answer()
	}
	for i := len(calls) - 1; i >= 0; i-- {
		if again := calls[i].answer(); again != first[i] {
			t.Errorf("%s: first %s, then %s", calls[i].name, first[i], again)
		}
	}
}

func TestCallsAtTheSameTimeDoNotInterfere(t *testing.T) {
	calls := allCalls()
	var group sync.WaitGroup
	answers := make([][]string, 8)
	for worker := range answers {
		answers[worker] = make([]string, len(calls))
		group.Add(1)
		go func() {
			defer group.Done()
			for i := range calls {
				at := (i + worker*len(calls)/len(answers)) % len(calls)
				answers[worker][at] = calls[at].answer()
			}
		}()
	}
	group.Wait()
	for i, c := range calls {
		want := c.answer()
		for worker := range answers {
			if answers[worker][i] != want {
				t.Errorf("%s: %s, at the same time %s", c.name, want, answers[worker][i])
			}
		}
	}
}

// P4: a program may make very many calls, and the last ones answer as the first ones did.

func TestManyCallsGiveTheSameAnswers(t *testing.T) {
	key := strings.Repeat("k", api.MaxText)
	firstSum, _ := hash.Sum(key)
	firstMix := hash.Mix(firstSum)
	n := firstSum
	for range 1 << 20 {
		hash.Sum(key)
		n = hash.Mix(n)
	}
	for range 1 << 20 {
		n = hash.Unmix(n)
	}
	if n != firstSum {
		t.Errorf("2^20 times Mix and then Unmix of %d returns %d", firstSum, n)
	}
	if sum, err := hash.Sum(key); sum != firstSum || err != api.OK || hash.Mix(sum) != firstMix {
		t.Errorf("after many calls Sum = %d, %d; want %d, OK", sum, err, firstSum)
	}
}

func TestManyChangesOfATableGiveTheSameTable(t *testing.T) {
	first := make([]api.Slot, 8)
	for i, key := range []string{"a", "b", "c", "d", "e"} {
		first, _ = table.Put(first, key, i)
	}
	list := first
	for i := range 1 << 16 {
		list, _ = table.Put(list, "f", i)
		list, _ = table.Delete(list, "f")
	}
	if got, want := fmt.Sprint(list), fmt.Sprint(first); got != want {
		t.Errorf("after many changes the table is %s, want %s", got, want)
	}
}

func TestManyAdditionsToAFilterGiveTheSameFilter(t *testing.T) {
	first := api.Filter{Size: 64, Hashes: 4}
	texts := []string{"a", "b", "c", "d", "e"}
	for _, text := range texts {
		first, _ = bloom.Add(first, text)
	}
	f := first
	for i := range 1 << 16 {
		f, _ = bloom.Add(f, texts[i%len(texts)])
		f, _ = bloom.Union(f, first)
	}
	if got, want := fmt.Sprint(f), fmt.Sprint(first); got != want {
		t.Errorf("after many additions the filter is %s, want %s", got, want)
	}
}

func TestManyAdditionsToASketchAreAllCounted(t *testing.T) {
	first := api.Sketch{Wide: 4, Counts: [][]int{make([]int, 4), make([]int, 4)}}
	s := first
	for range 1 << 16 {
		s, _ = sketch.Add(s, "a", 1)
		s, _ = sketch.Merge(s, first)
	}
	want, _ := sketch.Add(first, "a", 1<<16)
	if got := fmt.Sprint(s); got != fmt.Sprint(want) {
		t.Errorf("after many additions the sketch is %s, want %v", got, want)
	}
}

func TestManyChangesOfAWheelGiveTheSameWheel(t *testing.T) {
	first := inSlot(0, 47, api.Timer{Id: 1, At: api.MaxTime - 1}, api.Timer{Id: 2, At: api.MaxTime})
	w := first
	for i := range 1 << 15 {
		w, _ = wheel.Add(w, api.Timer{Id: 3, At: i + 1})
		w, _ = wheel.Cancel(w, 3)
		w, _, _ = wheel.Advance(w, i)
	}
	want, _, _ := wheel.Advance(first, 1<<15-1)
	if got := fmt.Sprint(w); got != fmt.Sprint(want) {
		t.Errorf("after many changes the wheel is %s, want %v", got, want)
	}
}

func TestManyChangesOfACacheGiveTheSameCache(t *testing.T) {
	first := api.Cache{Room: 4, Keys: []int{1, 2, 3, 4}}
	c := first
	for range 1 << 15 {
		c, _, _, _ = lru.Access(c, 5)
		c, _, _ = lru.Resize(c, 5)
		c, _, _ = lru.Run(c, []int{4, 3, 2, 1})
		c, _, _ = lru.Resize(c, 4)
	}
	if got, want := fmt.Sprint(c), fmt.Sprint(first); got != want {
		t.Errorf("after many changes the cache is %s, want %s", got, want)
	}
}

func TestManyChangesOfAClockGiveTheSameClock(t *testing.T) {
	first := api.Clock{Room: 2, Frames: []api.Frame{{Key: 1}, {Key: 2}}}
	c := first
	for range 1 << 15 {
		c, _, _, _ = clock.Access(c, 3)
		c, _, _ = clock.Run(c, []int{2, 1, 2})
		c, _ = clock.Clear(c)
		c, _, _ = clock.Run(c, []int{4, 1, 2})
	}
	if got, want := fmt.Sprint(c), fmt.Sprint(first); got != want {
		t.Errorf("after many changes the clock is %s, want %s", got, want)
	}
}

func TestManyChangesOfACountedCacheGiveTheSameCache(t *testing.T) {
	first := api.Uses{Room: 2, List: []api.Use{{Key: 1, Count: 1}, {Key: 2, Count: 1}}}
	u := first
	for range 1 << 15 {
		u, _, _, _ = lfu.Access(u, 3)
		u, _, _ = lfu.Run(u, []int{2, 1, 2, 1})
		u, _ = lfu.Age(u)
		u, _, _ = lfu.Run(u, []int{4, 2, 1})
		u, _ = lfu.Age(u)
	}
	if got, want := fmt.Sprint(u), fmt.Sprint(first); got != want {
		t.Errorf("after many changes the cache is %s, want %s", got, want)
	}
}

func TestManyChangesOfASegmentedCacheGiveTheSameCache(t *testing.T) {
	first := api.Segments{First: 2, Second: 2, New: []int{1, 2}, Old: []int{3, 4}}
	h := first
	for range 1 << 15 {
		h, _, _, _ = segment.Access(h, 2)
		h, _, _ = segment.Run(h, []int{5, 1, 5})
		h, _, _, _ = segment.Access(h, 4)
		h, _, _ = segment.Run(h, []int{4, 3, 3, 2, 1})
	}
	if got, want := fmt.Sprint(h), fmt.Sprint(first); got != want {
		t.Errorf("after many changes the cache is %s, want %s", got, want)
	}
}

func TestManyRunsOfATraceEvictTheSameKeys(t *testing.T) {
	trace := []int{1, 2, 3, 1, 4, 2}
	first, firstMisses, _ := optimal.Evictions(trace, 2)
	for range 1 << 16 {
		optimal.Evictions(trace, 3)
		if got, misses, err := optimal.Evictions(trace, 2); !slices.Equal(got, first) || misses != firstMisses || err != api.OK {
			t.Fatalf("after many runs Evictions = %v, %d, %d; want %v, %d, OK", got, misses, err, first, firstMisses)
		}
	}
}

func TestManyCountsOfATraceGiveTheSameHits(t *testing.T) {
	trace := []int{1, 2, 3, 1, 4, 2}
	first, _ := distance.Hits(trace)
	for range 1 << 16 {
		distance.Misses(trace)
		if got, err := distance.Hits(trace); !slices.Equal(got, first) || err != api.OK {
			t.Fatalf("after many counts Hits = %v, %d; want %v, OK", got, err, first)
		}
	}
}

func TestManyPhasesOfATraceAreTheSame(t *testing.T) {
	trace := []int{1, 1, 2, 3, 4, 1}
	first, _ := workset.Phases(trace, 2, 1)
	for range 1 << 16 {
		workset.Set(trace, 3, 3)
		if got, err := workset.Phases(trace, 2, 1); !slices.Equal(got, first) || err != api.OK {
			t.Fatalf("after many calls Phases = %v, %d; want %v, OK", got, err, first)
		}
	}
}

func TestABucketThatRunsForLongMissesNoToken(t *testing.T) {
	// Two tokens come in each round, and seven ticks are left over, which must count: 27 tokens come in ten rounds.
	// As three are taken as soon as they are there, the bucket is never full.
	b, taken := api.Bucket{Most: 6, Every: 10}, 0
	for i := range 1 << 20 {
		var ok bool
		if b, ok, _ = rate.Take(b, 27*(i+1), 3); ok {
			taken += 3
		}
		rate.When(b, 27*(i+1), 6)
	}
	if most := 27 << 20 / 10; taken+b.Has != most || b.At != 10*most {
		t.Errorf("%d tokens were taken, and the bucket is %v; want %d tokens in all", taken, b, most)
	}
}

func TestAFloorThatRisesForLongStaysALowerBound(t *testing.T) {
	// Each round evicts the item of the round before last, so that the floor rises by 512 in each two rounds.
	h := api.Greedy{Room: 5}
	const rounds = 1 << 18
	for i := range rounds {
		var err api.Errno
		if h, _, _, err = greedy.Access(h, api.Item{Key: i, Size: 2, Cost: 1}); err != api.OK {
			t.Fatalf("Access: error %d in round %d", err, i)
		}
	}
	want := api.Greedy{Room: 5, Floor: 512 * (rounds/2 - 1), Things: []api.Item{
		{Key: rounds - 2, Size: 2, Cost: 1, Worth: 512 * rounds / 2}, {Key: rounds - 1, Size: 2, Cost: 1, Worth: 512 * rounds / 2}}}
	if got := fmt.Sprint(h); got != fmt.Sprint(want) {
		t.Errorf("after many rounds the cache is %s, want %v", got, want)
	}
}

func TestManyKeysHaveTheSameOwners(t *testing.T) {
	l := []api.Shard{{Name: "A", Weight: 1}, {Name: "B", Weight: 2}, {Name: "C", Weight: 3}}
	keys := []string{"v", "w", "x", "y", "z"}
	first, _ := shard.Owners(l, "x", 3)
	firstMoved, _ := shard.Moved(l, l[1:], keys)
	for i := range 1 << 16 {
		shard.Owner(l, fmt.Sprint("key ", i))
		if got, err := shard.Owners(l, "x", 3); !slices.Equal(got, first) || err != api.OK {
			t.Fatalf("after many keys Owners = %v, %d; want %v, OK", got, err, first)
		}
	}
	if got, err := shard.Moved(l, l[1:], keys); !slices.Equal(got, firstMoved) || err != api.OK {
		t.Errorf("after many keys Moved = %v, %d; want %v, OK", got, err, firstMoved)
	}
}

func TestManyChangesOfARingGiveTheSamePoints(t *testing.T) {
	first := []api.Point{{At: 10, Shard: 1}, {At: 20, Shard: 2}, {At: 40000, Shard: 1}}
	l := first
	for i := range 1 << 17 {
		var added, removed api.Errno
		l, added = ring.Add(l, 3, []int{(i+30000)%39000 + 30, 5, 15})
		l, removed = ring.Remove(l, 3)
		if !slices.Equal(l, first) || added != api.OK || removed != api.OK {
			t.Fatalf("in round %d the points are %v, errors %d and %d; want %v", i, l, added, removed, first)
		}
	}
}

func TestAStoreThatIsUsedForLongHasTheLastEntries(t *testing.T) {
	// An entry comes in each tick and stays for four, so that the last four of the seven keys are there.
	l := api.Store{Life: 4}
	const rounds = 1 << 18
	for i := range rounds {
		var err api.Errno
		if l, err = expire.Put(l, i%7, i, i); err != api.OK {
			t.Fatalf("Put: error %d in round %d", err, i)
		}
		before, found, _ := expire.Get(l, (i+4)%7, i)
		_, again, _ := expire.Get(l, (i+3)%7, i)
		if wantFound := i >= 3; found != wantFound || found && before != i-3 || again {
			t.Fatalf("in round %d the store is %v; Get of %d = %d, %t, and of %d %t", i, l, (i+4)%7, before, found, (i+3)%7, again)
		}
	}
	rest, expired, err := expire.Sweep(l, rounds+3)
	if next, _ := expire.Next(l); len(rest.Entries) != 0 || len(expired) != 4 || next != rounds || err != api.OK {
		t.Errorf("after many rounds the store is %v, of which %v expire, the first at %d, error %d", l, expired, next, err)
	}
}

func TestLimitsAreThoseOfTheDocument(t *testing.T) {
	for _, c := range []struct {
		name      string
		got, want int
	}{
		{"MaxKey", api.MaxKey, 1 << 20}, {"MaxText", api.MaxText, 40}, {"MaxSlots", api.MaxSlots, 64},
		{"MaxValue", api.MaxValue, 1 << 40}, {"MaxSize", api.MaxSize, 1024}, {"MaxHashes", api.MaxHashes, 8},
		{"MaxRows", api.MaxRows, 6}, {"MaxWide", api.MaxWide, 64}, {"MaxCount", api.MaxCount, 1 << 40},
		{"MaxTime", api.MaxTime, 1<<18 - 1}, {"MaxTimers", api.MaxTimers, 60}, {"Places", api.Places, 48},
		{"MaxRoom", api.MaxRoom, 40}, {"MaxTrace", api.MaxTrace, 200}, {"MaxTokens", api.MaxTokens, 1 << 20},
		{"MaxTick", api.MaxTick, 1 << 40}, {"MaxItems", api.MaxItems, 40}, {"MaxSizes", api.MaxSizes, 1 << 20},
		{"MaxCost", api.MaxCost, 1 << 20}, {"MaxWorth", api.MaxWorth, 1 << 50}, {"MaxShards", api.MaxShards, 20},
		{"MaxWeight", api.MaxWeight, 8}, {"MaxPoints", api.MaxPoints, 60}, {"MaxPlace", api.MaxPlace, 1 << 16},
		{"MaxLife", api.MaxLife, 1 << 30}, {"MaxEntries", api.MaxEntries, 40}, {"MaxCalls", api.MaxCalls, 60},
		{"MaxLetters", api.MaxLetters, 2000},
	} {
		if c.got != c.want {
			t.Errorf("%s is %d, want %d", c.name, c.got, c.want)
		}
	}
}
