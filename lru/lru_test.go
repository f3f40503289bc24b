package lru_test

import (
	"fmt"
	"math"
	"math/rand"
	"slices"
	"testing"

	"slopchest/api"
	"slopchest/lru"
)

// of is the cache with these keys.
func of(room int, keys ...int) api.Cache {
	return api.Cache{Room: room, Keys: keys}
}

// upTo are the keys 0 to many - 1.
func upTo(many int) []int {
	keys := make([]int, many)
	for i := range keys {
		keys[i] = i
	}
	return keys
}

func equal(a, b api.Cache) bool {
	return a.Room == b.Room && slices.Equal(a.Keys, b.Keys)
}

// notKeys are numbers that are not keys.
func notKeys() []int {
	return []int{-1, api.MaxKey + 1, -api.MaxKey, math.MinInt, math.MaxInt, 1 << 32, 1<<32 + 1}
}

// notRooms are numbers that are not the room of a cache.
func notRooms() []int {
	return []int{0, -1, api.MaxRoom + 1, -api.MaxRoom, math.MinInt, math.MaxInt, 1 << 32, 1<<32 + 1}
}

func wantAccess(t *testing.T, c api.Cache, key int, want api.Cache, wantHit bool, wantEvicted int) {
	t.Helper()
	got, hit, evicted, err := lru.Access(c, key)
	if !equal(got, want) || hit != wantHit || evicted != wantEvicted || err != api.OK {
		t.Errorf("Access(%v, %d) = %v, %t, %d, %d; want %v, %t, %d, OK", c, key, got, hit, evicted, err, want, wantHit, wantEvicted)
	}
}

func wantAccessError(t *testing.T, what string, c api.Cache, key int, want api.Errno) {
	t.Helper()
	got, hit, evicted, err := lru.Access(c, key)
	if !equal(got, api.Cache{}) || hit || evicted != 0 || err != want {
		t.Errorf("Access of %d, %s: %v, %t, %d, %d; want zero values, %d", key, what, got, hit, evicted, err, want)
	}
}

func wantRun(t *testing.T, c api.Cache, trace []int, want api.Cache, wantHits int) {
	t.Helper()
	got, hits, err := lru.Run(c, trace)
	if !equal(got, want) || hits != wantHits || err != api.OK {
		t.Errorf("Run(%v, %v) = %v, %d, %d; want %v, %d, OK", c, trace, got, hits, err, want, wantHits)
	}
}

func wantRunError(t *testing.T, what string, c api.Cache, trace []int, want api.Errno) {
	t.Helper()
	got, hits, err := lru.Run(c, trace)
	if !equal(got, api.Cache{}) || hits != 0 || err != want {
		t.Errorf("Run, %s: %v, %d, %d; want zero values, %d", what, got, hits, err, want)
	}
}

func wantResize(t *testing.T, c api.Cache, room int, want api.Cache, wantEvicted []int) {
	t.Helper()
	got, evicted, err := lru.Resize(c, room)
	if !equal(got, want) || !slices.Equal(evicted, wantEvicted) || err != api.OK {
		t.Errorf("Resize(%v, %d) = %v, %v, %d; want %v, %v, OK", c, room, got, evicted, err, want, wantEvicted)
	}
}

func wantResizeError(t *testing.T, what string, c api.Cache, room int, want api.Errno) {
	t.Helper()
	got, evicted, err := lru.Resize(c, room)
	if !equal(got, api.Cache{}) || len(evicted) != 0 || err != want {
		t.Errorf("Resize to %d, %s: %v, %v, %d; want zero values, %d", room, what, got, evicted, err, want)
	}
}

// badCache is a cache that Check refuses.
type badCache struct {
	name string
	c    api.Cache
	want api.Errno
}

// badCaches are caches with each of the errors of Check, alone and with others.
func badCaches() []badCache {
	twice := upTo(api.MaxRoom)
	twice[api.MaxRoom-1] = 0
	list := []badCache{
		{"zero", api.Cache{}, api.ErrRange},
		{"a key too many", of(1, 1, 2), api.ErrMany},
		{"a key too many of the greatest room", of(api.MaxRoom, upTo(api.MaxRoom+1)...), api.ErrMany},
		{"very many keys", of(3, upTo(1<<16)...), api.ErrMany},
		{"twice", of(2, 1, 1), api.ErrTwice},
		{"twice, with another between", of(3, 1, 2, 1), api.ErrTwice},
		{"twice at the end", of(3, 2, 1, 1), api.ErrTwice},
		{"0 twice", of(3, 0, 1, 0), api.ErrTwice},
		{"the greatest key twice", of(2, api.MaxKey, api.MaxKey), api.ErrTwice},
		{"the first and the last of the greatest room", of(api.MaxRoom, twice...), api.ErrTwice},
		// The number of keys comes before the keys.
		{"many before twice", of(1, 1, 1), api.ErrMany},
		{"many before a key out of range", of(1, -1, 2), api.ErrMany},
		{"many before a key out of range behind the room", of(1, 1, -1), api.ErrMany},
		// Of one key the first error counts.
		{"range before twice", of(2, -1, -1), api.ErrRange},
		// Of several keys the first one counts.
		{"twice, then range", of(3, 1, 1, -1), api.ErrTwice},
		{"range, then twice", of(3, 1, -1, 1), api.ErrRange},
		{"range, then twice behind it", of(3, api.MaxKey+1, 1, 1), api.ErrRange},
	}
	for _, room := range notRooms() {
		list = append(list, badCache{fmt.Sprint("room ", room), of(room), api.ErrRange},
			badCache{fmt.Sprint("one key, room ", room), of(room, 1), api.ErrRange},
			badCache{fmt.Sprint("room before many, ", room), of(room, upTo(api.MaxRoom+5)...), api.ErrRange},
			badCache{fmt.Sprint("room before twice, ", room), of(room, 1, 1), api.ErrRange})
	}
	for _, key := range notKeys() {
		for at := range 4 {
			keys := []int{5, 6, 7, 8}
			keys[at] = key
			list = append(list, badCache{fmt.Sprintf("key %d at %d", key, at), of(5, keys...), api.ErrRange})
		}
	}
	return list
}

// badTrace is a trace that CheckTrace refuses.
type badTrace struct {
	name  string
	trace []int
	want  api.Errno
}

// badTraces are traces with each of the errors of CheckTrace, alone and with others.
func badTraces() []badTrace {
	list := []badTrace{
		{"a key too many", upTo(api.MaxTrace + 1), api.ErrMany},
		{"a key too many, all equal", make([]int, api.MaxTrace+1), api.ErrMany},
		{"very many keys", make([]int, 1<<16), api.ErrMany},
	}
	for _, key := range notKeys() {
		for _, at := range []int{0, 1, 100, api.MaxTrace - 1} {
			trace := upTo(api.MaxTrace)
			trace[at] = key
			list = append(list, badTrace{fmt.Sprintf("key %d at %d", key, at), trace, api.ErrRange},
				badTrace{fmt.Sprintf("many before key %d at %d", key, at), append(slices.Clone(trace), 1), api.ErrMany})
		}
		list = append(list, badTrace{fmt.Sprint("only key ", key), []int{key}, api.ErrRange})
	}
	return list
}

// randomTrace returns keys below kinds, so that few kinds have many hits.
func randomTrace(source *rand.Rand, many, kinds int) []int {
	trace := make([]int, many)
	for i := range trace {
		trace[i] = source.Intn(kinds)
	}
	return trace
}

// randomCache returns a cache with keys below kinds.
func randomCache(source *rand.Rand, kinds int) api.Cache {
	room := 1 + source.Intn(api.MaxRoom)
	return of(room, source.Perm(kinds)[:source.Intn(min(room, kinds)+1)]...)
}

// slowRun follows the document by the time of the last use of each key, and
// not by their order in a list. It returns the evicted keys or -1 as well.
func slowRun(c api.Cache, trace []int) (result api.Cache, hits int, evicted []int) {
	last := map[int]int{}
	for i, key := range c.Keys {
		last[key] = -i
	}
	for i, key := range trace {
		gone := -1
		if _, cached := last[key]; cached {
			hits++
		} else if len(last) == c.Room {
			for other := range last {
				if gone == -1 || last[other] < last[gone] {
					gone = other
				}
			}
			delete(last, gone)
		}
		last[key] = i + 1
		evicted = append(evicted, gone)
	}
	for key := range last {
		result.Keys = append(result.Keys, key)
	}
	slices.SortFunc(result.Keys, func(a, b int) int { return last[b] - last[a] })
	result.Room = c.Room
	return result, hits, evicted
}

// F1.

func TestCheckRefuses(t *testing.T) {
	for _, b := range badCaches() {
		if got := lru.Check(b.c); got != b.want {
			t.Errorf("Check, %s: %d, want %d", b.name, got, b.want)
		}
	}
}

func TestCheckAccepts(t *testing.T) {
	list := []api.Cache{of(1), of(1, []int{}...), of(1, 0), of(1, api.MaxKey), of(2, api.MaxKey, 0), of(2, 1, 2), of(2, 2, 1), of(3, 1, 2)}
	for room := 1; room <= api.MaxRoom; room++ {
		for many := range room + 1 {
			list = append(list, of(room, upTo(many)...))
		}
	}
	for _, c := range list {
		if got := lru.Check(c); got != api.OK {
			t.Errorf("Check(%v) = %d, want OK", c, got)
		}
	}
}

func TestCheckFindsAKeyTwiceAtAnyTwoIndices(t *testing.T) {
	for first := range api.MaxRoom {
		for second := range first {
			keys := upTo(api.MaxRoom)
			keys[first] = keys[second]
			if got := lru.Check(of(api.MaxRoom, keys...)); got != api.ErrTwice {
				t.Errorf("Check, the same key at %d and %d: %d, want %d", first, second, got, api.ErrTwice)
			}
		}
	}
}

func TestCheckTraceRefuses(t *testing.T) {
	for _, b := range badTraces() {
		if got := lru.CheckTrace(b.trace); got != b.want {
			t.Errorf("CheckTrace, %s: %d, want %d", b.name, got, b.want)
		}
	}
}

func TestCheckTraceAccepts(t *testing.T) {
	for _, trace := range [][]int{
		nil, {}, {0}, {api.MaxKey}, {1, 1}, {api.MaxKey, 0, api.MaxKey}, upTo(api.MaxRoom + 1), upTo(api.MaxTrace - 1), upTo(api.MaxTrace),
		make([]int, api.MaxTrace), slices.Repeat([]int{api.MaxKey}, api.MaxTrace),
	} {
		if got := lru.CheckTrace(trace); got != api.OK {
			t.Errorf("CheckTrace(%v) = %d, want OK", trace, got)
		}
	}
}

// F2.

func TestAccessOfTheExample(t *testing.T) {
	wantAccess(t, of(2, 1, 2), 3, of(2, 3, 1), false, 2)
}

func TestAccessMovesAKeyToTheFront(t *testing.T) {
	for _, room := range []int{4, 5, api.MaxRoom} {
		wantAccess(t, of(room, 7, 3, 9, 0), 7, of(room, 7, 3, 9, 0), true, -1)
		wantAccess(t, of(room, 7, 3, 9, 0), 3, of(room, 3, 7, 9, 0), true, -1)
		wantAccess(t, of(room, 7, 3, 9, 0), 9, of(room, 9, 7, 3, 0), true, -1)
		wantAccess(t, of(room, 7, 3, 9, 0), 0, of(room, 0, 7, 3, 9), true, -1)
	}
	wantAccess(t, of(1, 5), 5, of(1, 5), true, -1)
}

func TestAccessInsertsAKeyWhileThereIsRoom(t *testing.T) {
	wantAccess(t, of(1), 0, of(1, 0), false, -1)
	wantAccess(t, of(1, []int{}...), api.MaxKey, of(1, api.MaxKey), false, -1)
	c := of(api.MaxRoom)
	for key := range api.MaxRoom {
		keys := upTo(key + 1)
		slices.Reverse(keys)
		wantAccess(t, c, key, of(api.MaxRoom, keys...), false, -1)
		c = of(api.MaxRoom, keys...)
	}
}

func TestAccessEvictsOnlyFromAFullCache(t *testing.T) {
	wantAccess(t, of(1, 5), 6, of(1, 6), false, 5)
	wantAccess(t, of(3, 7, 8), 9, of(3, 9, 7, 8), false, -1)
	// An evicted key 0 is not the same as none.
	wantAccess(t, of(2, 1, 0), 2, of(2, 2, 1), false, 0)
	wantAccess(t, of(2, 0, api.MaxKey), 1, of(2, 1, 0), false, api.MaxKey)
	for room := 1; room <= api.MaxRoom; room++ {
		want := append([]int{1000}, upTo(room-1)...)
		wantAccess(t, of(room, upTo(room)...), 1000, of(room, want...), false, room-1)
	}
}

func TestAccessRefusesNumbersThatAreNotKeys(t *testing.T) {
	for _, c := range []api.Cache{of(1), of(1, 1), of(2, 1), of(api.MaxRoom, upTo(api.MaxRoom)...)} {
		for _, key := range notKeys() {
			wantAccessError(t, fmt.Sprint(c), c, key, api.ErrRange)
		}
	}
}

func TestAccessFirstReturnsTheErrorOfCheck(t *testing.T) {
	for _, b := range badCaches() {
		for _, key := range append(notKeys(), 0, 1, 2, api.MaxKey) {
			wantAccessError(t, b.name, b.c, key, b.want)
		}
	}
}

func TestAccessFollowsTheDocument(t *testing.T) {
	source := rand.New(rand.NewSource(1))
	for range 400 {
		kinds := 1 + source.Intn(2*api.MaxRoom)
		c := randomCache(source, kinds)
		trace := randomTrace(source, 60, kinds)
		_, _, evicted := slowRun(c, trace)
		for i, key := range trace {
			want, hits, _ := slowRun(c, []int{key})
			wantAccess(t, c, key, want, hits == 1, evicted[i])
			if err := lru.Check(want); err != api.OK {
				t.Errorf("Check of the result of Access = %d, want OK", err)
			}
			c = want
		}
	}
}

// A larger cache contains everything that a smaller one contains, and in the same order.

func TestALargerCacheContainsASmallerOne(t *testing.T) {
	source := rand.New(rand.NewSource(2))
	for range 20 {
		trace := randomTrace(source, api.MaxTrace, 1+source.Intn(2*api.MaxRoom))
		smaller, fewer, err := lru.Run(of(1), trace)
		if err != api.OK {
			t.Fatalf("Run: error %d", err)
		}
		for room := 2; room <= api.MaxRoom; room++ {
			larger, hits, err := lru.Run(of(room), trace)
			if err != api.OK || hits < fewer || len(larger.Keys) < len(smaller.Keys) || !slices.Equal(larger.Keys[:len(smaller.Keys)], smaller.Keys) {
				t.Fatalf("room %d: %v, %d hits, error %d; with less room %v, %d hits", room, larger, hits, err, smaller, fewer)
			}
			smaller, fewer = larger, hits
		}
	}
}

// Run, which has no number in the document.

func TestRunOfKnownTraces(t *testing.T) {
	wantRun(t, of(2), []int{1, 2, 1, 3, 2, 2}, of(2, 2, 3), 2)
	wantRun(t, of(1), []int{1, 1, 2, 1, 1}, of(1, 1), 2)
	wantRun(t, of(3), []int{1, 2, 3, 4, 1, 2, 3, 4}, of(3, 4, 3, 2), 0)
	wantRun(t, of(4), []int{1, 2, 3, 4, 1, 2, 3, 4}, of(4, 4, 3, 2, 1), 4)
	// The keys that were cached before count as hits.
	wantRun(t, of(3, 5, 6, 7), []int{7, 6, 5}, of(3, 5, 6, 7), 3)
	wantRun(t, of(3, 5, 6, 7), []int{0, 7, 5}, of(3, 5, 7, 0), 1)
	wantRun(t, of(1, 0), make([]int, api.MaxTrace), of(1, 0), api.MaxTrace)
	wantRun(t, of(1), slices.Repeat([]int{api.MaxKey}, api.MaxTrace), of(1, api.MaxKey), api.MaxTrace-1)
	last := upTo(api.MaxTrace)[api.MaxTrace-api.MaxRoom:]
	slices.Reverse(last)
	wantRun(t, of(api.MaxRoom), upTo(api.MaxTrace), of(api.MaxRoom, last...), 0)
}

func TestRunOfTheEmptyTraceReturnsTheCache(t *testing.T) {
	for _, trace := range [][]int{nil, {}} {
		for _, c := range []api.Cache{of(1), of(2, 1), of(3, 3, 1, 2), of(api.MaxRoom, upTo(api.MaxRoom)...)} {
			wantRun(t, c, trace, c, 0)
		}
	}
}

func TestRunFollowsTheDocument(t *testing.T) {
	source := rand.New(rand.NewSource(3))
	for range 1000 {
		kinds := 1 + source.Intn(2*api.MaxRoom)
		c := randomCache(source, kinds)
		trace := randomTrace(source, source.Intn(api.MaxTrace+1), kinds)
		want, hits, _ := slowRun(c, trace)
		wantRun(t, c, trace, want, hits)
	}
}

func TestRunIsOneAccessAfterAnother(t *testing.T) {
	source := rand.New(rand.NewSource(4))
	for range 200 {
		kinds := 1 + source.Intn(2*api.MaxRoom)
		c := randomCache(source, kinds)
		trace := randomTrace(source, source.Intn(api.MaxTrace+1), kinds)
		got, hits := c, 0
		for _, key := range trace {
			next, hit, _, err := lru.Access(got, key)
			if err != api.OK {
				t.Fatalf("Access: error %d", err)
			}
			got = next
			if hit {
				hits++
			}
		}
		wantRun(t, c, trace, got, hits)
	}
}

func TestRunRefusesBadTraces(t *testing.T) {
	for _, b := range badTraces() {
		for _, c := range []api.Cache{of(1), of(2, 1, 2), of(api.MaxRoom, upTo(api.MaxRoom)...)} {
			wantRunError(t, b.name, c, b.trace, b.want)
		}
	}
}

func TestRunFirstReturnsTheErrorOfCheck(t *testing.T) {
	for _, b := range badCaches() {
		for _, trace := range [][]int{nil, {1, 2}, {-1}, upTo(api.MaxTrace + 1)} {
			wantRunError(t, b.name, b.c, trace, b.want)
		}
	}
}

// F3.

func TestResizeOfTheExample(t *testing.T) {
	wantResize(t, of(3, 1, 2, 3), 1, of(1, 1), []int{3, 2})
}

func TestResizeToEveryRoom(t *testing.T) {
	for before := 1; before <= api.MaxRoom; before++ {
		for _, many := range []int{0, 1, before / 2, before - 1, before} {
			for room := 1; room <= api.MaxRoom; room++ {
				var evicted []int
				for key := many - 1; key >= room; key-- {
					evicted = append(evicted, key)
				}
				wantResize(t, of(before, upTo(many)...), room, of(room, upTo(min(many, room))...), evicted)
			}
		}
	}
}

func TestResizeKeepsTheOrderOfTheKeys(t *testing.T) {
	c := of(5, 7, 0, api.MaxKey, 3, 9)
	wantResize(t, c, api.MaxRoom, of(api.MaxRoom, 7, 0, api.MaxKey, 3, 9), nil)
	wantResize(t, c, 5, c, nil)
	wantResize(t, c, 4, of(4, 7, 0, api.MaxKey, 3), []int{9})
	wantResize(t, c, 2, of(2, 7, 0), []int{9, 3, api.MaxKey})
	wantResize(t, c, 1, of(1, 7), []int{9, 3, api.MaxKey, 0})
	// A cache that is not full loses keys only for which there is no room.
	wantResize(t, of(5, 7, 0, 3), 3, of(3, 7, 0, 3), nil)
	wantResize(t, of(5, 7, 0, 3), 2, of(2, 7, 0), []int{3})
}

func TestResizeAtOnceIsResizeInSteps(t *testing.T) {
	source := rand.New(rand.NewSource(5))
	for range 200 {
		c := randomCache(source, 2*api.MaxRoom)
		end := 1 + source.Intn(c.Room)
		got, all := c, []int(nil)
		for room := c.Room; room >= end; room-- {
			next, evicted, err := lru.Resize(got, room)
			if err != api.OK || len(evicted) > 1 {
				t.Fatalf("Resize(%v, %d) evicts %v, error %d", got, room, evicted, err)
			}
			got, all = next, append(all, evicted...)
		}
		wantResize(t, c, end, got, all)
	}
}

func TestResizeRefusesNumbersThatAreNotRooms(t *testing.T) {
	for _, c := range []api.Cache{of(1), of(1, 1), of(3, 1, 2), of(api.MaxRoom, upTo(api.MaxRoom)...)} {
		for _, room := range notRooms() {
			wantResizeError(t, fmt.Sprint(c), c, room, api.ErrRange)
		}
	}
}

func TestResizeFirstReturnsTheErrorOfCheck(t *testing.T) {
	for _, b := range badCaches() {
		for _, room := range append(notRooms(), 1, 2, api.MaxRoom) {
			wantResizeError(t, b.name, b.c, room, b.want)
		}
	}
}

// P2.

// spare is a list with spare capacity; all returns everything in its memory.
func spare(list ...int) (result []int, all func() string) {
	whole := append(slices.Clone(list), -5, -6, -7)
	return whole[:len(list)], func() string { return fmt.Sprint(whole[:cap(whole)]) }
}

// overwrite fills the whole memory of a list.
func overwrite(list []int) {
	list = list[:cap(list)]
	for i := range list {
		list[i] = -8
	}
}

// change is a call that returns a cache, and the evicted keys if it is Resize.
type change struct {
	name string
	run  func() (api.Cache, []int, api.Errno)
}

// changes are calls for a cache with the keys 1, 2 and 3, full or not.
func changes(c api.Cache, trace []int) []change {
	var list []change
	for key := range 5 {
		list = append(list, change{fmt.Sprint("Access of ", key), func() (api.Cache, []int, api.Errno) {
			got, _, _, err := lru.Access(c, key)
			return got, nil, err
		}})
	}
	for many := range len(trace) + 1 {
		list = append(list, change{fmt.Sprintf("Run of %d keys", many), func() (api.Cache, []int, api.Errno) {
			got, _, err := lru.Run(c, trace[:many])
			return got, nil, err
		}})
	}
	for room := 1; room <= 5; room++ {
		list = append(list, change{fmt.Sprint("Resize to ", room), func() (api.Cache, []int, api.Errno) {
			return lru.Resize(c, room)
		}})
	}
	return list
}

func TestArgumentsAreNeitherChangedNorShared(t *testing.T) {
	for _, room := range []int{3, 4, 6} {
		keys, allKeys := spare(1, 2, 3)
		trace, allTrace := spare(3, 1, 4, 2, 2, 5, 1, 6)
		c := of(room, keys...)
		before, beforeTrace := allKeys(), allTrace()
		for _, call := range changes(c, trace) {
			got, evicted, err := call.run()
			if err != api.OK {
				t.Errorf("%s: error %d", call.name, err)
			}
			overwrite(got.Keys)
			overwrite(evicted)
			if allKeys() != before || allTrace() != beforeTrace {
				t.Fatalf("%s changes its arguments: %s, %s", call.name, allKeys(), allTrace())
			}
		}
		lru.Check(c)
		lru.CheckTrace(trace)
		lru.Access(c, -1)
		lru.Run(c, []int{1, -1})
		lru.Resize(c, 0)
		if allKeys() != before || allTrace() != beforeTrace {
			t.Errorf("Check, CheckTrace or a call that fails changes its arguments: %s, %s", allKeys(), allTrace())
		}
	}
}

func TestSlicesOfAResultDoNotShareMemory(t *testing.T) {
	for room := 1; room <= 5; room++ {
		got, evicted, err := lru.Resize(of(4, 1, 2, 3, 4), room)
		kept, gone := slices.Clone(got.Keys), slices.Clone(evicted)
		overwrite(got.Keys)
		if err != api.OK || !slices.Equal(evicted, gone) {
			t.Errorf("Resize to %d: the evicted keys were %v, and are now %v", room, gone, evicted)
		}
		got, evicted, _ = lru.Resize(of(4, 1, 2, 3, 4), room)
		overwrite(evicted)
		if !slices.Equal(got.Keys, kept) {
			t.Errorf("Resize to %d: the keys were %v, and are now %v", room, kept, got.Keys)
		}
	}
}

func TestATraceMayShareMemoryWithTheCache(t *testing.T) {
	all := []int{1, 2, 3, 4, 5, 6}
	wantRun(t, of(4, all[:4]...), all[1:4], of(4, 4, 3, 2, 1), 3)
	wantRun(t, of(4, all[:4]...), all, of(4, 6, 5, 4, 3), 4)
	if !slices.Equal(all, []int{1, 2, 3, 4, 5, 6}) {
		t.Errorf("Run changes its arguments: %v", all)
	}
}
