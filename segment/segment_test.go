package segment_test

import (
	"cmp"
	"fmt"
	"math"
	"math/rand"
	"slices"
	"testing"

	"slopchest/api"
	"slopchest/lru"
	"slopchest/segment"
)

// of is the segmented cache with these lists.
func of(first, second int, fresh, old []int) api.Segments {
	return api.Segments{First: first, Second: second, New: fresh, Old: old}
}

// keys is a list of keys.
func keys(list ...int) []int { return list }

// from are many keys that follow each other, the first one given.
func from(first, many int) []int {
	list := make([]int, many)
	for i := range list {
		list[i] = first + i
	}
	return list
}

// falling are the keys of from in the order in which a cache lists them after they were accessed.
func falling(first, many int) []int {
	list := from(first, many)
	slices.Reverse(list)
	return list
}

// full is the greatest cache, with the keys 0 to 39 in New and 40 to 79 in Old.
func full() api.Segments {
	return of(api.MaxRoom, api.MaxRoom, from(0, api.MaxRoom), from(api.MaxRoom, api.MaxRoom))
}

func equal(a, b api.Segments) bool {
	return a.First == b.First && a.Second == b.Second && slices.Equal(a.New, b.New) && slices.Equal(a.Old, b.Old)
}

// notKeys are numbers that are not keys.
func notKeys() []int {
	return []int{-1, api.MaxKey + 1, -api.MaxKey, math.MinInt, math.MaxInt, 1 << 32, 1<<32 + 1}
}

// notRooms are numbers that are not the room of a list.
func notRooms() []int {
	return []int{0, -1, api.MaxRoom + 1, -api.MaxRoom, math.MinInt, math.MaxInt, 1 << 32, 1<<32 + 1}
}

func wantAccess(t *testing.T, h api.Segments, key int, want api.Segments, wantHit bool, wantEvicted ...int) {
	t.Helper()
	got, hit, evicted, err := segment.Access(h, key)
	if !equal(got, want) || hit != wantHit || !slices.Equal(evicted, wantEvicted) || err != api.OK {
		t.Errorf("Access(%v, %d) = %v, %t, %v, %d; want %v, %t, %v, OK", h, key, got, hit, evicted, err, want, wantHit, wantEvicted)
	}
}

func wantAccessError(t *testing.T, what string, h api.Segments, key int, want api.Errno) {
	t.Helper()
	got, hit, evicted, err := segment.Access(h, key)
	if !equal(got, api.Segments{}) || hit || len(evicted) != 0 || err != want {
		t.Errorf("Access of %d, %s: %v, %t, %v, %d; want zero values, %d", key, what, got, hit, evicted, err, want)
	}
}

func wantRun(t *testing.T, h api.Segments, trace []int, want api.Segments, wantHits int) {
	t.Helper()
	got, hits, err := segment.Run(h, trace)
	if !equal(got, want) || hits != wantHits || err != api.OK {
		t.Errorf("Run(%v, %v) = %v, %d, %d; want %v, %d, OK", h, trace, got, hits, err, want, wantHits)
	}
}

func wantRunError(t *testing.T, what string, h api.Segments, trace []int, want api.Errno) {
	t.Helper()
	got, hits, err := segment.Run(h, trace)
	if !equal(got, api.Segments{}) || hits != 0 || err != want {
		t.Errorf("Run, %s: %v, %d, %d; want zero values, %d", what, got, hits, err, want)
	}
}

func wantKeys(t *testing.T, h api.Segments, want ...int) {
	t.Helper()
	if got, err := segment.Keys(h); !slices.Equal(got, want) || err != api.OK {
		t.Errorf("Keys(%v) = %v, %d; want %v, OK", h, got, err, want)
	}
}

// badCache is a cache that Check refuses.
type badCache struct {
	name string
	h    api.Segments
	want api.Errno
}

// badCaches are caches with each of the errors of Check, alone and with others.
func badCaches() []badCache {
	more := from(0, api.MaxRoom+1)
	list := []badCache{
		{"zero", api.Segments{}, api.ErrRange},
		{"New has a key too many", of(1, 3, keys(1, 2), nil), api.ErrMany},
		{"Old has a key too many", of(3, 1, nil, keys(1, 2)), api.ErrMany},
		{"both have a key too many", of(1, 1, keys(1, 2), keys(3, 4)), api.ErrMany},
		{"New is full, Old has a key too many", of(2, 1, keys(1, 2), keys(3, 4)), api.ErrMany},
		{"Old is full, New has a key too many", of(1, 2, keys(1, 2), keys(3, 4)), api.ErrMany},
		{"New has a key too many of the greatest room", of(api.MaxRoom, api.MaxRoom, more, nil), api.ErrMany},
		{"Old has a key too many of the greatest room", of(api.MaxRoom, api.MaxRoom, nil, more), api.ErrMany},
		{"very many keys", of(3, 3, from(0, 1<<16), from(1<<16, 1<<16)), api.ErrMany},
		{"twice in New", of(2, 1, keys(1, 1), nil), api.ErrTwice},
		{"twice in Old", of(1, 2, nil, keys(1, 1)), api.ErrTwice},
		{"in New and in Old", of(1, 1, keys(1), keys(1)), api.ErrTwice},
		{"twice in New, with another between", of(3, 1, keys(1, 2, 1), nil), api.ErrTwice},
		{"twice in Old, with another between", of(1, 3, nil, keys(1, 2, 1)), api.ErrTwice},
		{"0 in both", of(2, 2, keys(0, 1), keys(2, 0)), api.ErrTwice},
		{"the greatest key in both", of(2, 2, keys(1, api.MaxKey), keys(2, api.MaxKey)), api.ErrTwice},
		// The number of keys comes before the keys.
		{"many before twice", of(1, 1, keys(1, 1), nil), api.ErrMany},
		{"many in Old before twice in New", of(2, 1, keys(1, 1), keys(2, 3)), api.ErrMany},
		{"many in New before range", of(1, 1, keys(-1, 2), nil), api.ErrMany},
		{"many in New before range behind the room", of(1, 1, keys(1, -1), nil), api.ErrMany},
		{"many in Old before range in New", of(1, 1, keys(-1), keys(2, 3)), api.ErrMany},
		{"many in New before range in Old", of(1, 1, keys(1, 2), keys(-1)), api.ErrMany},
		// Of one key the first error counts, of several keys the first one.
		{"range before twice in New", of(2, 1, keys(-1, -1), nil), api.ErrRange},
		{"range before twice in both", of(1, 1, keys(-1), keys(-1)), api.ErrRange},
		{"twice, then range in New", of(3, 1, keys(1, 1, -1), nil), api.ErrTwice},
		{"twice, then range in Old", of(1, 3, nil, keys(1, 1, -1)), api.ErrTwice},
		{"range, then twice in New", of(3, 1, keys(1, -1, 1), nil), api.ErrRange},
		{"range, then twice in Old", of(1, 3, nil, keys(api.MaxKey+1, 1, 1)), api.ErrRange},
		{"range in New, then twice in Old", of(1, 2, keys(-1), keys(1, 1)), api.ErrRange},
		{"twice in New, then range in Old", of(2, 1, keys(1, 1), keys(-1)), api.ErrTwice},
		{"in both, then range in Old", of(1, 2, keys(1), keys(1, -1)), api.ErrTwice},
		{"range in Old, then in both", of(1, 2, keys(1), keys(-1, 1)), api.ErrRange},
	}
	for _, room := range notRooms() {
		list = append(list,
			badCache{fmt.Sprint("First ", room), of(room, 1, nil, nil), api.ErrRange},
			badCache{fmt.Sprint("Second ", room), of(1, room, nil, nil), api.ErrRange},
			badCache{fmt.Sprint("both rooms ", room), of(room, room, keys(1), keys(2)), api.ErrRange},
			badCache{fmt.Sprint("First before many in New, ", room), of(room, 1, more, nil), api.ErrRange},
			badCache{fmt.Sprint("First before many in Old, ", room), of(room, 1, nil, keys(1, 2)), api.ErrRange},
			badCache{fmt.Sprint("Second before many in New, ", room), of(1, room, keys(1, 2), nil), api.ErrRange},
			badCache{fmt.Sprint("Second before many in Old, ", room), of(1, room, nil, more), api.ErrRange},
			badCache{fmt.Sprint("First before twice, ", room), of(room, 2, keys(1), keys(1)), api.ErrRange},
			badCache{fmt.Sprint("Second before twice, ", room), of(2, room, keys(1, 1), nil), api.ErrRange})
	}
	for at := range 4 {
		for _, key := range notKeys() {
			changed := keys(5, 6, 7, 8)
			changed[at] = key
			list = append(list,
				badCache{fmt.Sprintf("key %d at %d of New", key, at), of(4, 4, changed, keys(9)), api.ErrRange},
				badCache{fmt.Sprintf("key %d at %d of Old", key, at), of(5, 5, keys(9), changed), api.ErrRange})
		}
	}
	return list
}

// badTraces are traces that lru.CheckTrace refuses.
func badTraces() [][]int {
	list := [][]int{from(0, api.MaxTrace+1), make([]int, api.MaxTrace+1), make([]int, 1<<16)}
	for _, key := range notKeys() {
		for _, at := range []int{0, 1, 100, api.MaxTrace - 1} {
			trace := from(0, api.MaxTrace)
			trace[at] = key
			list = append(list, trace, append(slices.Clone(trace), 1))
		}
		list = append(list, keys(key))
	}
	return list
}

// goodCaches are caches that Check accepts, for calls that fail for other reasons.
func goodCaches() []api.Segments {
	return []api.Segments{of(1, 1, nil, nil), of(1, 1, keys(1), keys(2)), of(3, 2, keys(1, 4), keys(2, 3)), full()}
}

// randomTrace returns keys below kinds, so that few kinds have many hits.
func randomTrace(source *rand.Rand, many, kinds int) []int {
	trace := make([]int, many)
	for i := range trace {
		trace[i] = source.Intn(kinds)
	}
	return trace
}

// randomCache returns a cache with keys below kinds, and each list empty, full or between.
func randomCache(source *rand.Rand, kinds int) api.Segments {
	h := of(1+source.Intn(api.MaxRoom), 1+source.Intn(api.MaxRoom), nil, nil)
	all := source.Perm(kinds)
	part := func(room int) []int {
		many := min(source.Intn(2*room+1), room, len(all))
		list := slices.Clone(all[:many])
		all = all[many:]
		return list
	}
	h.New = part(h.First)
	h.Old = part(h.Second)
	return h
}

// record is which list has a key, and when it was accessed last.
type record struct {
	old  bool
	last int
}

// log is a cache as one map with times instead of two lists in their order.
type log struct {
	first, second, now int
	records            map[int]record
}

func newLog(h api.Segments) *log {
	g := &log{first: h.First, second: h.Second, records: map[int]record{}}
	for _, key := range slices.Backward(h.New) {
		g.now++
		g.records[key] = record{last: g.now}
	}
	for _, key := range slices.Backward(h.Old) {
		g.now++
		g.records[key] = record{old: true, last: g.now}
	}
	return g
}

// list returns the keys of one list, the one that was accessed last first.
func (g *log) list(old bool) []int {
	var list []int
	for key, r := range g.records {
		if r.old == old {
			list = append(list, key)
		}
	}
	slices.SortFunc(list, func(a, b int) int { return cmp.Compare(g.records[b].last, g.records[a].last) })
	return list
}

func (g *log) cache() api.Segments {
	return of(g.first, g.second, g.list(false), g.list(true))
}

// access follows the document.
func (g *log) access(key int) (hit bool, evicted []int) {
	g.now++
	_, hit = g.records[key]
	g.records[key] = record{old: hit, last: g.now}
	room := g.first
	if hit {
		room = g.second
	}
	if list := g.list(hit); len(list) > room {
		evicted = list[room:]
		delete(g.records, evicted[0])
	}
	return hit, evicted
}

// I1.

func TestCheckRefuses(t *testing.T) {
	for _, b := range badCaches() {
		if got := segment.Check(b.h); got != b.want {
			t.Errorf("Check, %s: %d, want %d", b.name, got, b.want)
		}
	}
}

func TestCheckAccepts(t *testing.T) {
	list := append(goodCaches(), of(1, 1, keys(), keys()), of(1, 1, keys(0), nil), of(1, 1, nil, keys(0)),
		of(1, 1, keys(api.MaxKey), keys(0)), of(2, 1, keys(0, 2), keys(api.MaxKey)), of(3, 3, keys(2, 1), keys(4, 3)))
	for room := 1; room <= api.MaxRoom; room++ {
		for many := range room + 1 {
			list = append(list, of(room, 1, from(0, many), nil), of(1, room, nil, from(0, many)),
				of(room, room, from(0, many), from(100, many)), of(room, api.MaxRoom, falling(0, many), falling(100, api.MaxRoom)),
				of(api.MaxRoom, room, falling(0, api.MaxRoom), falling(100, many)))
		}
	}
	for _, h := range list {
		if got := segment.Check(h); got != api.OK {
			t.Errorf("Check(%v) = %d, want OK", h, got)
		}
	}
}

func TestCheckFindsAKeyTwiceAtAnyTwoIndices(t *testing.T) {
	for second := range 2 * api.MaxRoom {
		for first := range second {
			list := from(0, 2*api.MaxRoom)
			list[second] = first
			h := of(api.MaxRoom, api.MaxRoom, list[:api.MaxRoom], list[api.MaxRoom:])
			if got := segment.Check(h); got != api.ErrTwice {
				t.Errorf("Check, the same key at %d and %d: %d, want %d", first, second, got, api.ErrTwice)
			}
		}
	}
}

func TestCheckFindsANumberThatIsNotAKeyAtAnyIndex(t *testing.T) {
	for at := range 2 * api.MaxRoom {
		for _, key := range notKeys() {
			list := from(0, 2*api.MaxRoom)
			list[at] = key
			h := of(api.MaxRoom, api.MaxRoom, list[:api.MaxRoom], list[api.MaxRoom:])
			if got := segment.Check(h); got != api.ErrRange {
				t.Errorf("Check, %d at %d: %d, want %d", key, at, got, api.ErrRange)
			}
		}
	}
}

// I2.

func TestAccessOfTheExample(t *testing.T) {
	source := rand.New(rand.NewSource(1))
	for _, h := range append(goodCaches(), randomCache(source, 50), randomCache(source, 100)) {
		for _, key := range keys(0, 1, 2, 50, api.MaxKey) {
			once, _, _, err := segment.Access(h, key)
			if err != api.OK {
				t.Fatalf("Access(%v, %d): error %d", h, key, err)
			}
			twice, hit, _, err := segment.Access(once, key)
			if err != api.OK || !hit || len(twice.Old) == 0 || twice.Old[0] != key {
				t.Errorf("Access(%v, %d) = %v, %t, %d; want the key at the front of Old, true, OK", once, key, twice, hit, err)
			}
		}
	}
}

func TestAccessMovesAKeyOfOldToItsFront(t *testing.T) {
	for _, room := range keys(3, 4, api.MaxRoom) {
		h := of(2, room, keys(1, 2), keys(7, 0, 9))
		wantAccess(t, h, 7, of(2, room, keys(1, 2), keys(7, 0, 9)), true)
		wantAccess(t, h, 0, of(2, room, keys(1, 2), keys(0, 7, 9)), true)
		wantAccess(t, h, 9, of(2, room, keys(1, 2), keys(9, 7, 0)), true)
	}
	wantAccess(t, of(1, 1, nil, keys(api.MaxKey)), api.MaxKey, of(1, 1, nil, keys(api.MaxKey)), true)
	for at := range api.MaxRoom {
		h := full()
		key := h.Old[at]
		old := slices.Insert(slices.Delete(slices.Clone(h.Old), at, at+1), 0, key)
		wantAccess(t, h, key, of(h.First, h.Second, h.New, old), true)
	}
}

func TestAccessMovesAKeyOfNewToTheFrontOfOld(t *testing.T) {
	for _, room := range keys(3, 4, api.MaxRoom) {
		for _, second := range keys(3, 4, api.MaxRoom) {
			h := of(room, second, keys(7, 0, 9), keys(1, 2))
			wantAccess(t, h, 7, of(room, second, keys(0, 9), keys(7, 1, 2)), true)
			wantAccess(t, h, 0, of(room, second, keys(7, 9), keys(0, 1, 2)), true)
			wantAccess(t, h, 9, of(room, second, keys(7, 0), keys(9, 1, 2)), true)
		}
	}
	wantAccess(t, of(1, 1, keys(api.MaxKey), nil), api.MaxKey, of(1, 1, nil, keys(api.MaxKey)), true)
	wantAccess(t, of(1, 1, keys(0), keys()), 0, of(1, 1, nil, keys(0)), true)
}

func TestAccessOfAKeyOfNewEvictsTheLastOneOfAFullOld(t *testing.T) {
	wantAccess(t, of(1, 1, keys(1), keys(2)), 1, of(1, 1, nil, keys(1)), true, 2)
	wantAccess(t, of(1, 1, keys(5), keys(0)), 5, of(1, 1, nil, keys(5)), true, 0)
	wantAccess(t, of(3, 2, keys(1, 2, 3), keys(5, 4)), 3, of(3, 2, keys(1, 2), keys(3, 5)), true, 4)
	// The key that Old evicts is gone: New does not take it, though it has room.
	wantAccess(t, of(api.MaxRoom, 2, keys(1, 2), keys(5, 4)), 2, of(api.MaxRoom, 2, keys(1), keys(2, 5)), true, 4)
	wantAccess(t, of(3, 2, keys(1), keys(2, 5)), 4, of(3, 2, keys(4, 1), keys(2, 5)), false)
	for at := range api.MaxRoom {
		h := full()
		key := h.New[at]
		fresh := slices.Delete(slices.Clone(h.New), at, at+1)
		old := slices.Insert(slices.Clone(h.Old[:api.MaxRoom-1]), 0, key)
		wantAccess(t, h, key, of(h.First, h.Second, fresh, old), true, h.Old[api.MaxRoom-1])
	}
}

func TestAccessInsertsAKeyThatIsNotCachedIntoNew(t *testing.T) {
	wantAccess(t, of(1, 1, nil, nil), 0, of(1, 1, keys(0), nil), false)
	wantAccess(t, of(2, 1, keys(), keys(1)), api.MaxKey, of(2, 1, keys(api.MaxKey), keys(1)), false)
	wantAccess(t, of(3, 2, keys(1, 2), keys(4, 5)), 3, of(3, 2, keys(3, 1, 2), keys(4, 5)), false)
	h := of(api.MaxRoom, 1, nil, nil)
	for key := range api.MaxRoom {
		next := of(api.MaxRoom, 1, falling(0, key+1), nil)
		wantAccess(t, h, key, next, false)
		h = next
	}
}

func TestAccessOfAKeyThatIsNotCachedEvictsTheLastOneOfAFullNew(t *testing.T) {
	wantAccess(t, of(1, 1, keys(1), nil), 2, of(1, 1, keys(2), nil), false, 1)
	wantAccess(t, of(1, 1, keys(0), keys(1)), 2, of(1, 1, keys(2), keys(1)), false, 0)
	wantAccess(t, of(3, 3, keys(1, 2, 3), keys(4)), 0, of(3, 3, keys(0, 1, 2), keys(4)), false, 3)
	wantAccess(t, full(), 1000, of(api.MaxRoom, api.MaxRoom, append(keys(1000), from(0, api.MaxRoom-1)...), from(api.MaxRoom, api.MaxRoom)), false, api.MaxRoom-1)
	for room := 1; room <= api.MaxRoom; room++ {
		want := append(keys(1000), from(0, room-1)...)
		wantAccess(t, of(room, 1, from(0, room), nil), 1000, of(room, 1, want, nil), false, room-1)
	}
}

func TestAccessOfManyNewKeysLeavesOldAlone(t *testing.T) {
	old := keys(3, 1, 2)
	h := of(4, 3, keys(5, 6), old)
	for key := 10; key < 100; key++ {
		next, hit, _, err := segment.Access(h, key)
		if hit || err != api.OK || !slices.Equal(next.Old, old) {
			t.Fatalf("Access(%v, %d) = %v, %t, %d; want Old as it was, false, OK", h, key, next, hit, err)
		}
		h = next
	}
	if want := of(4, 3, falling(96, 4), old); !equal(h, want) {
		t.Errorf("after 90 new keys: %v, want %v", h, want)
	}
}

func TestAccessRefusesNumbersThatAreNotKeys(t *testing.T) {
	for _, h := range goodCaches() {
		for _, key := range notKeys() {
			wantAccessError(t, fmt.Sprint(h), h, key, api.ErrRange)
		}
	}
}

func TestAccessFirstReturnsTheErrorOfCheck(t *testing.T) {
	for _, b := range badCaches() {
		for _, key := range append(notKeys(), 0, 1, 2, api.MaxKey) {
			wantAccessError(t, b.name, b.h, key, b.want)
		}
	}
}

func TestAccessFollowsTheDocument(t *testing.T) {
	source := rand.New(rand.NewSource(2))
	for range 400 {
		kinds := 1 + source.Intn(3*api.MaxRoom)
		h := randomCache(source, kinds)
		g := newLog(h)
		for _, key := range randomTrace(source, 100, kinds) {
			hit, evicted := g.access(key)
			want := g.cache()
			wantAccess(t, h, key, want, hit, evicted...)
			if err := segment.Check(want); err != api.OK {
				t.Errorf("Check of the result of Access = %d, want OK", err)
			}
			h = want
		}
	}
}

// Run, which has no number in the document.

func TestRunOfKnownTraces(t *testing.T) {
	wantRun(t, of(2, 1, nil, nil), keys(1, 2, 2, 3, 3, 3), of(2, 1, keys(1), keys(3)), 3)
	wantRun(t, of(2, 2, nil, nil), keys(1, 1, 2, 3, 4, 1), of(2, 2, keys(4, 3), keys(1)), 2)
	wantRun(t, of(1, 1, nil, nil), keys(1, 2, 1, 2, 2, 1, 1), of(1, 1, nil, keys(1)), 2)
	// The keys that were there before count as hits, those that were evicted since do not.
	wantRun(t, of(2, 4, keys(1, 2), keys(3, 4)), keys(4, 1, 3, 2), of(2, 4, nil, keys(2, 3, 1, 4)), 4)
	wantRun(t, of(2, 2, keys(1, 2), keys(3, 4)), keys(4, 1, 3, 2), of(2, 2, keys(3), keys(2, 1)), 3)
	// What Old evicts begins again in New.
	wantRun(t, of(1, 1, keys(1), keys(2)), keys(1, 2, 2, 1), of(1, 1, keys(1), keys(2)), 2)
	wantRun(t, of(1, 1, nil, nil), make([]int, api.MaxTrace), of(1, 1, nil, keys(0)), api.MaxTrace-1)
	wantRun(t, of(1, 1, nil, nil), slices.Repeat(keys(api.MaxKey), api.MaxTrace), of(1, 1, nil, keys(api.MaxKey)), api.MaxTrace-1)
	wantRun(t, of(api.MaxRoom, 1, nil, keys(1000)), from(0, api.MaxTrace), of(api.MaxRoom, 1, falling(api.MaxTrace-api.MaxRoom, api.MaxRoom), keys(1000)), 0)
	wantRun(t, full(), from(0, 2*api.MaxRoom), of(api.MaxRoom, api.MaxRoom, falling(api.MaxRoom, api.MaxRoom), falling(0, api.MaxRoom)), api.MaxRoom)
}

func TestRunOfTheEmptyTraceReturnsTheCache(t *testing.T) {
	for _, trace := range [][]int{nil, {}} {
		for _, h := range goodCaches() {
			wantRun(t, h, trace, h, 0)
		}
	}
}

func TestRunFollowsTheDocument(t *testing.T) {
	source := rand.New(rand.NewSource(3))
	for range 500 {
		kinds := 1 + source.Intn(3*api.MaxRoom)
		h := randomCache(source, kinds)
		trace := randomTrace(source, source.Intn(api.MaxTrace+1), kinds)
		g, hits := newLog(h), 0
		for _, key := range trace {
			if hit, _ := g.access(key); hit {
				hits++
			}
		}
		wantRun(t, h, trace, g.cache(), hits)
	}
}

func TestRunIsOneAccessAfterAnother(t *testing.T) {
	source := rand.New(rand.NewSource(4))
	for range 200 {
		kinds := 1 + source.Intn(3*api.MaxRoom)
		h := randomCache(source, kinds)
		trace := randomTrace(source, source.Intn(api.MaxTrace+1), kinds)
		got, hits := h, 0
		for _, key := range trace {
			next, hit, _, err := segment.Access(got, key)
			if err != api.OK {
				t.Fatalf("Access: error %d", err)
			}
			got = next
			if hit {
				hits++
			}
		}
		wantRun(t, h, trace, got, hits)
	}
}

func TestRunRefusesBadTraces(t *testing.T) {
	for _, trace := range badTraces() {
		want := lru.CheckTrace(trace)
		if want == api.OK {
			t.Fatalf("CheckTrace(%v) = OK", trace)
		}
		for _, h := range goodCaches() {
			wantRunError(t, fmt.Sprintf("%d keys", len(trace)), h, trace, want)
		}
	}
	wantRunError(t, "a key too many", of(1, 1, nil, nil), from(0, api.MaxTrace+1), api.ErrMany)
	wantRunError(t, "a key out of range at the end", of(1, 1, nil, nil), keys(1, 2, -1), api.ErrRange)
}

func TestRunFirstReturnsTheErrorOfCheck(t *testing.T) {
	for _, b := range badCaches() {
		for _, trace := range [][]int{nil, {1, 2}, {-1}, from(0, api.MaxTrace+1)} {
			wantRunError(t, b.name, b.h, trace, b.want)
		}
	}
}

// Keys, which has no number in the document.

func TestKeysAreThoseOfNewAndThenOfOld(t *testing.T) {
	wantKeys(t, of(1, 1, nil, nil))
	wantKeys(t, of(3, 3, keys(), keys()))
	wantKeys(t, of(3, 3, keys(3, 0), nil), 3, 0)
	wantKeys(t, of(3, 3, nil, keys(api.MaxKey, 4)), api.MaxKey, 4)
	wantKeys(t, of(2, 3, keys(9, 1), keys(5, 0, 7)), 9, 1, 5, 0, 7)
	wantKeys(t, of(1, 1, keys(2), keys(1)), 2, 1)
	wantKeys(t, full(), from(0, 2*api.MaxRoom)...)
}

func TestKeysReturnsTheErrorOfCheck(t *testing.T) {
	for _, b := range badCaches() {
		if got, err := segment.Keys(b.h); len(got) != 0 || err != b.want {
			t.Errorf("Keys, %s: %v, %d; want no keys, %d", b.name, got, err, b.want)
		}
	}
}

// P2.

// result is what a call returned: its slices, and the error.
type result struct {
	name   string
	slices [][]int
	err    api.Errno
}

// callAll calls every function, with arguments that hit in Old and in New, that miss, and that fail.
func callAll(h api.Segments, trace []int) []result {
	list := []result{{name: "Check", err: segment.Check(h)}}
	for _, key := range keys(-1, 1, 2, 3, 4, 5, 6, 7) {
		next, _, evicted, err := segment.Access(h, key)
		list = append(list, result{fmt.Sprint("Access of ", key), [][]int{next.New, next.Old, evicted}, err})
	}
	for many := range len(trace) + 1 {
		next, _, err := segment.Run(h, trace[:many])
		list = append(list, result{fmt.Sprintf("Run of %d keys", many), [][]int{next.New, next.Old}, err})
	}
	all, err := segment.Keys(h)
	return append(list, result{"Keys", [][]int{all}, err})
}

// overwrite fills the whole memory of a slice.
func overwrite(list []int) {
	list = list[:cap(list)]
	for i := range list {
		list[i] = -8
	}
}

// adjacent are caches whose lists lie in one array, each with spare capacity, and caches with only one of
// these lists; all returns the whole array.
func adjacent() (list []api.Segments, all func() string) {
	whole := keys(1, 2, 3, -5, -6, 4, 5, 6, -7, -9)
	for _, rooms := range [][2]int{{3, 3}, {4, 3}, {3, 4}, {6, 6}} {
		h := of(rooms[0], rooms[1], whole[:3], whole[5:8])
		list = append(list, h, of(h.First, h.Second, h.New, nil), of(h.First, h.Second, nil, h.Old))
	}
	return list, func() string { return fmt.Sprint(whole) }
}

func TestArgumentsAreNeitherChangedNorShared(t *testing.T) {
	list, all := adjacent()
	trace := keys(3, 1, 4, 7, 7, 5, 8, 6, -5, -6)
	before, traceBefore := all(), fmt.Sprint(trace)
	for _, h := range list {
		for i, r := range callAll(h, trace[:8]) {
			for _, memory := range r.slices {
				overwrite(memory)
			}
			if refused := i == 1; (r.err != api.OK) != refused || all() != before || fmt.Sprint(trace) != traceBefore {
				t.Fatalf("%s: error %d; the arguments are now %s, %v", r.name, r.err, all(), trace)
			}
		}
		if _, _, err := segment.Run(h, trace); err != api.ErrRange || all() != before || fmt.Sprint(trace) != traceBefore {
			t.Errorf("Run of no trace: error %d; the arguments are now %s, %v", err, all(), trace)
		}
	}
}

func TestSlicesOfAResultDoNotShareMemory(t *testing.T) {
	list, _ := adjacent()
	for _, h := range list {
		for _, r := range callAll(h, keys(3, 1, 4, 7, 7, 5, 8, 6)) {
			for i, memory := range r.slices {
				others := slices.Delete(slices.Clone(r.slices), i, i+1)
				before := fmt.Sprint(others)
				overwrite(memory)
				if after := fmt.Sprint(others); after != before {
					t.Errorf("%s: writing to slice %d changes the others from %s to %s", r.name, i, before, after)
				}
			}
		}
	}
}

func TestATraceMayShareMemoryWithTheCache(t *testing.T) {
	whole := keys(1, 2, 3, 4, 5, 6)
	h := of(3, 3, whole[:3], whole[3:])
	want, wantHits, err := segment.Run(of(3, 3, keys(1, 2, 3), keys(4, 5, 6)), keys(1, 2, 3, 4, 5, 6))
	if err != api.OK {
		t.Fatalf("Run: error %d", err)
	}
	wantRun(t, h, whole, want, wantHits)
}
