package optimal_test

import (
	"fmt"
	"math"
	"math/big"
	"math/rand"
	"slices"
	"testing"

	"slopchest/api"
	"slopchest/clock"
	"slopchest/lfu"
	"slopchest/lru"
	"slopchest/optimal"
	"slopchest/segment"
)

// keys is a list of keys.
func keys(list ...int) []int { return list }

// upTo are the keys 0 to many - 1.
func upTo(many int) []int {
	list := make([]int, many)
	for i := range list {
		list[i] = i
	}
	return list
}

// nothing is what Evictions returns for a trace of so many keys none of which is evicted.
func nothing(many int) []int {
	return slices.Repeat(keys(-1), many)
}

// notKeys are numbers that are not keys.
func notKeys() []int {
	return []int{-1, api.MaxKey + 1, -api.MaxKey, math.MinInt, math.MaxInt, 1 << 32, 1<<32 + 1}
}

// notRooms are numbers that are not the room of a cache.
func notRooms() []int {
	return []int{0, -1, api.MaxRoom + 1, -api.MaxRoom, math.MinInt, math.MaxInt, 1 << 32, 1<<32 + 1}
}

func wantNext(t *testing.T, trace []int, i, want int) {
	t.Helper()
	if got, err := optimal.Next(trace, i); got != want || err != api.OK {
		t.Errorf("Next(%v, %d) = %d, %d; want %d, OK", trace, i, got, err, want)
	}
}

func wantNextError(t *testing.T, what string, trace []int, i int, want api.Errno) {
	t.Helper()
	if got, err := optimal.Next(trace, i); got != 0 || err != want {
		t.Errorf("Next of %d, %s: %d, %d; want 0, %d", i, what, got, err, want)
	}
}

func wantEvictions(t *testing.T, trace []int, room int, want []int, wantMisses int) {
	t.Helper()
	got, misses, err := optimal.Evictions(trace, room)
	if !slices.Equal(got, want) || misses != wantMisses || err != api.OK {
		t.Errorf("Evictions(%v, %d) = %v, %d, %d; want %v, %d, OK", trace, room, got, misses, err, want, wantMisses)
	}
}

func wantEvictionsError(t *testing.T, what string, trace []int, room int, want api.Errno) {
	t.Helper()
	got, misses, err := optimal.Evictions(trace, room)
	if len(got) != 0 || misses != 0 || err != want {
		t.Errorf("Evictions with room %d, %s: %v, %d, %d; want zero values, %d", room, what, got, misses, err, want)
	}
}

func wantBound(t *testing.T, misses, room, least, want int) {
	t.Helper()
	if got, err := optimal.Bound(misses, room, least); got != want || err != api.OK {
		t.Errorf("Bound(%d, %d, %d) = %d, %d; want %d, OK", misses, room, least, got, err, want)
	}
}

func wantBoundError(t *testing.T, misses, room, least int, want api.Errno) {
	t.Helper()
	if got, err := optimal.Bound(misses, room, least); got != 0 || err != want {
		t.Errorf("Bound(%d, %d, %d) = %d, %d; want 0, %d", misses, room, least, got, err, want)
	}
}

// mustMiss returns the misses of the optimal policy.
func mustMiss(t *testing.T, trace []int, room int) int {
	t.Helper()
	_, misses, err := optimal.Evictions(trace, room)
	if err != api.OK {
		t.Fatalf("Evictions(%v, %d): error %d", trace, room, err)
	}
	return misses
}

// badTrace is a trace that lru.CheckTrace refuses.
type badTrace struct {
	name  string
	trace []int
	want  api.Errno
}

// badTraces are traces with each of the errors of lru.CheckTrace, alone and with others.
func badTraces() []badTrace {
	list := []badTrace{
		{"a key too many", upTo(api.MaxTrace + 1), api.ErrMany},
		{"a key too many, all equal", make([]int, api.MaxTrace+1), api.ErrMany},
		{"very many keys", make([]int, 1<<16), api.ErrMany},
	}
	for _, key := range notKeys() {
		for _, at := range keys(0, 1, 100, api.MaxTrace-1) {
			trace := upTo(api.MaxTrace)
			trace[at] = key
			list = append(list, badTrace{fmt.Sprintf("key %d at %d", key, at), trace, api.ErrRange},
				badTrace{fmt.Sprintf("many before key %d at %d", key, at), append(slices.Clone(trace), 1), api.ErrMany})
		}
		list = append(list, badTrace{fmt.Sprint("only key ", key), keys(key), api.ErrRange})
	}
	return list
}

// randomTrace returns keys below kinds, so that few kinds have many hits.
func randomTrace(source *rand.Rand, many, kinds int) []int {
	trace := make([]int, many)
	for i := range trace {
		trace[i] = source.Intn(kinds)
	}
	return trace
}

// someTraces are traces of several lengths and with several numbers of kinds of keys.
func someTraces(source *rand.Rand, many int) [][]int {
	list := [][]int{nil, keys(1), make([]int, api.MaxTrace), upTo(api.MaxTrace), slices.Concat(upTo(50), upTo(50), upTo(50), upTo(50))}
	for range many {
		list = append(list, randomTrace(source, source.Intn(api.MaxTrace+1), 1+source.Intn(2*api.MaxRoom)))
	}
	return list
}

// slowNext goes backward over the trace, and keeps the last index that it found.
func slowNext(trace []int, i int) int {
	found := len(trace)
	for j := len(trace) - 1; j > i; j-- {
		if trace[j] == trace[i] {
			found = j
		}
	}
	return found
}

// slowVictim strikes out the cached keys that are accessed again, the soonest one first, until there is
// one left, or only keys that are not accessed again.
func slowVictim(cached map[int]bool, rest []int) int {
	left := []int{}
	for key := range cached {
		left = append(left, key)
	}
	for _, key := range rest {
		if len(left) == 1 {
			break
		}
		left = slices.DeleteFunc(left, func(k int) bool { return k == key })
	}
	return slices.Min(left)
}

// slowEvictions follows the document with a set of keys and the rest of the trace, and without indices.
func slowEvictions(trace []int, room int) (evicted []int, misses int) {
	cached := map[int]bool{}
	for i, key := range trace {
		gone := -1
		if !cached[key] {
			misses++
			if len(cached) == room {
				gone = slowVictim(cached, trace[i+1:])
				delete(cached, gone)
			}
			cached[key] = true
		}
		evicted = append(evicted, gone)
	}
	return evicted, misses
}

// fewestMisses tries every choice of an evicted key. A cache is a set of bits, one for each key.
func fewestMisses(trace []int, room int) int {
	best := map[int]int{0: 0}
	for _, key := range trace {
		after := map[int]int{}
		reach := func(cache, misses int) {
			if before, ok := after[cache]; !ok || misses < before {
				after[cache] = misses
			}
		}
		for cache, misses := range best {
			many := 0
			for k := range 8 {
				many += cache >> k & 1
			}
			switch {
			case cache>>key&1 == 1:
				reach(cache, misses)
			case many < room:
				reach(cache|1<<key, misses+1)
			default:
				for k := range 8 {
					if cache>>k&1 == 1 {
						reach(cache&^(1<<k)|1<<key, misses+1)
					}
				}
			}
		}
		best = after
	}
	least := len(trace)
	for _, misses := range best {
		least = min(least, misses)
	}
	return least
}

// J1.

func TestNextOfTheExample(t *testing.T) {
	wantNext(t, keys(1, 2, 1), 0, 2)
}

func TestNextFindsTheFirstAccessBehindTheIndex(t *testing.T) {
	trace := keys(3, 1, 3, 0, 0, 3, 1, api.MaxKey, 3, api.MaxKey)
	for i, want := range keys(2, 6, 5, 4, 10, 8, 10, 9, 10, 10) {
		wantNext(t, trace, i, want)
	}
}

func TestNextReturnsTheLengthIfThereIsNone(t *testing.T) {
	wantNext(t, keys(0), 0, 1)
	wantNext(t, keys(api.MaxKey), 0, 1)
	wantNext(t, keys(1, 2, 1), 1, 3)
	// An access before the index, or at it, is not the next one.
	wantNext(t, keys(1, 2, 1), 2, 3)
	wantNext(t, keys(1, 1), 1, 2)
	for i := range api.MaxTrace {
		wantNext(t, upTo(api.MaxTrace), i, api.MaxTrace)
	}
}

func TestNextOfEqualKeysIsTheNextIndex(t *testing.T) {
	for i := range api.MaxTrace {
		wantNext(t, make([]int, api.MaxTrace), i, i+1)
		wantNext(t, slices.Repeat(keys(api.MaxKey), api.MaxTrace), i, i+1)
	}
}

func TestNextFollowsTheDocument(t *testing.T) {
	for _, trace := range someTraces(rand.New(rand.NewSource(1)), 60) {
		for i := range trace {
			wantNext(t, trace, i, slowNext(trace, i))
		}
	}
}

func TestNextRefusesNumbersThatAreNotIndices(t *testing.T) {
	for _, trace := range [][]int{nil, {}, {1}, {1, 2, 1}, upTo(api.MaxTrace), make([]int, api.MaxTrace)} {
		many := len(trace)
		for _, i := range keys(-1, -many-1, many, many+1, -1<<32, 1<<32, math.MinInt, math.MaxInt) {
			wantNextError(t, fmt.Sprintf("%d keys", many), trace, i, api.ErrRange)
		}
	}
}

func TestNextFirstReturnsTheErrorOfCheckTrace(t *testing.T) {
	for _, b := range badTraces() {
		for _, i := range keys(0, len(b.trace)-1, len(b.trace), -1, math.MinInt, math.MaxInt) {
			wantNextError(t, b.name, b.trace, i, b.want)
		}
	}
}

// J2.

func TestEvictionsOfTheExample(t *testing.T) {
	wantEvictions(t, keys(1, 2, 3, 1), 2, keys(-1, -1, 2, -1), 3)
}

func TestEvictionsOfTheEmptyTrace(t *testing.T) {
	for room := 1; room <= api.MaxRoom; room++ {
		wantEvictions(t, nil, room, nil, 0)
		wantEvictions(t, keys(), room, nil, 0)
	}
}

func TestNoKeyIsEvictedIfAllHaveRoom(t *testing.T) {
	wantEvictions(t, keys(0), 1, keys(-1), 1)
	wantEvictions(t, make([]int, api.MaxTrace), 1, nothing(api.MaxTrace), 1)
	wantEvictions(t, slices.Repeat(keys(api.MaxKey), api.MaxTrace), 1, nothing(api.MaxTrace), 1)
	for room := 1; room <= api.MaxRoom; room++ {
		for many := range room + 1 {
			trace := slices.Concat(upTo(many), upTo(many), upTo(many))
			wantEvictions(t, trace, room, nothing(3*many), many)
		}
	}
}

func TestTheKeyWithTheLatestNextAccessIsEvicted(t *testing.T) {
	// In whatever order the keys came, and whatever numbers they have.
	for _, next := range [][]int{{1, 2, 3}, {1, 3, 2}, {2, 1, 3}, {2, 3, 1}, {3, 1, 2}, {3, 2, 1}} {
		trace := slices.Concat(keys(1, 2, 3, 4), next)
		got, _, err := optimal.Evictions(trace, 3)
		if err != api.OK || len(got) != len(trace) || got[3] != next[2] {
			t.Errorf("Evictions(%v, 3) = %v, %d; want key %d evicted at index 3", trace, got, err, next[2])
		}
	}
	// A key that is not accessed again goes before all that are, though it came last or is the greatest one.
	wantEvictions(t, keys(1, 2, 9, 3, 2, 1), 3, keys(-1, -1, -1, 9, -1, -1), 4)
	wantEvictions(t, keys(9, 1, 2, 3, 2, 1), 3, keys(-1, -1, -1, 9, -1, -1), 4)
	wantEvictions(t, keys(1, 0, 2, 3, 2, 1), 3, keys(-1, -1, -1, 0, -1, -1), 4)
	// The first access behind the index counts, not the last one, and not how many there are.
	wantEvictions(t, keys(1, 2, 3, 1, 2, 2, 1), 2, keys(-1, -1, 2, -1, 3, -1, -1), 4)
	wantEvictions(t, keys(1, 2, 3, 2, 1, 1, 1, 1), 2, keys(-1, -1, 1, -1, 2, -1, -1, -1), 4)
	// An access to a key, hit or miss, gives it another next access.
	wantEvictions(t, keys(1, 2, 1, 3, 2), 2, keys(-1, -1, -1, 1, -1), 3)
	wantEvictions(t, keys(1, 2, 1, 3, 2, 1), 2, keys(-1, -1, -1, 1, -1, 2), 4)
	wantEvictions(t, keys(1, 2, 1, 3, 1, 2), 2, keys(-1, -1, -1, 2, -1, 1), 4)
}

func TestOfKeysThatAreNotAccessedAgainTheSmallestIsEvicted(t *testing.T) {
	for _, first := range [][]int{{1, 2, 3}, {1, 3, 2}, {2, 1, 3}, {2, 3, 1}, {3, 1, 2}, {3, 2, 1}} {
		wantEvictions(t, append(slices.Clone(first), 9), 3, keys(-1, -1, -1, 1), 4)
		wantEvictions(t, append(slices.Clone(first), 9, 8, 7), 3, keys(-1, -1, -1, 1, 2, 3), 6)
		wantEvictions(t, append(slices.Clone(first), 9, 1, 7), 3, keys(-1, -1, -1, 2, -1, 1), 5)
		// The key that was inserted last may be the smallest one.
		wantEvictions(t, append(slices.Clone(first), 0, 7), 3, keys(-1, -1, -1, 1, 0), 5)
	}
	wantEvictions(t, keys(api.MaxKey, 0, 1), 2, keys(-1, -1, 0), 3)
	wantEvictions(t, keys(0, api.MaxKey, 1), 2, keys(-1, -1, 0), 3)
	wantEvictions(t, keys(api.MaxKey-1, api.MaxKey, 5, 6), 2, keys(-1, -1, api.MaxKey-1, 5), 4)
}

func TestAKeyIsInsertedEvenIfItsOwnNextAccessIsLatest(t *testing.T) {
	wantEvictions(t, keys(1, 2, 1, 2, 1), 1, keys(-1, 1, 2, 1, 2), 5)
	wantEvictions(t, keys(1, 2, 3, 1, 2), 2, keys(-1, -1, 2, -1, 1), 4)
	wantEvictions(t, keys(5, 4, 3), 1, keys(-1, 5, 4), 3)
}

func TestEvictionsOfTheLongestTraces(t *testing.T) {
	for room := 1; room <= api.MaxRoom; room++ {
		rising := slices.Concat(nothing(room), upTo(api.MaxTrace-room))
		wantEvictions(t, upTo(api.MaxTrace), room, rising, api.MaxTrace)
		falling := upTo(api.MaxTrace)
		slices.Reverse(falling)
		evicted := slices.Concat(nothing(room), falling[room-1:api.MaxTrace-1])
		wantEvictions(t, falling, room, evicted, api.MaxTrace)
	}
}

func TestEvictionsFollowsTheDocument(t *testing.T) {
	source := rand.New(rand.NewSource(2))
	for _, trace := range someTraces(source, 300) {
		for _, room := range keys(1, 2, 1+source.Intn(api.MaxRoom), api.MaxRoom) {
			evicted, misses := slowEvictions(trace, room)
			wantEvictions(t, trace, room, evicted, misses)
		}
	}
}

func TestEvictionsDependsOnlyOnTheOrderOfKeys(t *testing.T) {
	source := rand.New(rand.NewSource(3))
	greater := func(key int) int { return api.MaxKey - 3*(100-key) }
	for _, trace := range someTraces(source, 100) {
		trace = slices.DeleteFunc(slices.Clone(trace), func(key int) bool { return key > 100 })
		room := 1 + source.Intn(api.MaxRoom)
		evicted, misses := slowEvictions(trace, room)
		for i := range trace {
			trace[i] = greater(trace[i])
			if evicted[i] >= 0 {
				evicted[i] = greater(evicted[i])
			}
		}
		wantEvictions(t, trace, room, evicted, misses)
	}
}

func TestNoChoiceOfEvictedKeysHasFewerMisses(t *testing.T) {
	source := rand.New(rand.NewSource(4))
	for range 400 {
		trace := randomTrace(source, source.Intn(25), 1+source.Intn(8))
		for room := 1; room <= 8; room++ {
			if got, want := mustMiss(t, trace, room), fewestMisses(trace, room); got != want {
				t.Errorf("Evictions(%v, %d) has %d misses, want %d", trace, room, got, want)
			}
		}
	}
}

func TestNoPolicyHasMoreHits(t *testing.T) {
	source := rand.New(rand.NewSource(5))
	for _, trace := range someTraces(source, 100) {
		for room := 2; room <= api.MaxRoom; room += 1 + source.Intn(3) {
			most := len(trace) - mustMiss(t, trace, room)
			_, byLRU, _ := lru.Run(api.Cache{Room: room}, trace)
			_, byClock, _ := clock.Run(api.Clock{Room: room}, trace)
			_, byLFU, _ := lfu.Run(api.Uses{Room: room}, trace)
			_, bySegments, _ := segment.Run(api.Segments{First: room / 2, Second: room - room/2}, trace)
			if others := max(byLRU, byClock, byLFU, bySegments); others > most {
				t.Errorf("trace %v, room %d: %d hits, another policy has %d", trace, room, most, others)
			}
		}
	}
}

func TestALargerRoomHasNoMoreMisses(t *testing.T) {
	for _, trace := range someTraces(rand.New(rand.NewSource(6)), 60) {
		for room := 2; room <= api.MaxRoom; room++ {
			if less, more := mustMiss(t, trace, room-1), mustMiss(t, trace, room); more > less {
				t.Errorf("trace %v: %d misses with room %d, and %d with room %d", trace, less, room-1, more, room)
			}
		}
	}
}

func TestEvictionsRefusesBadRooms(t *testing.T) {
	for _, trace := range [][]int{nil, {}, {1}, {1, 2, 3, 1}, upTo(api.MaxTrace)} {
		for _, room := range notRooms() {
			wantEvictionsError(t, fmt.Sprintf("%d keys", len(trace)), trace, room, api.ErrRange)
		}
	}
}

func TestEvictionsFirstReturnsTheErrorOfCheckTrace(t *testing.T) {
	for _, b := range badTraces() {
		for _, room := range append(notRooms(), 1, 2, api.MaxRoom) {
			wantEvictionsError(t, b.name, b.trace, room, b.want)
		}
	}
}

// J3.

func TestBoundOfTheExample(t *testing.T) {
	wantBound(t, 3, 2, 1, 5)
}

func TestBoundOfKnownNumbers(t *testing.T) {
	wantBound(t, 0, 1, 1, 1)
	wantBound(t, 1, 1, 1, 2)
	wantBound(t, 0, api.MaxRoom, 1, api.MaxRoom)
	wantBound(t, api.MaxTrace, 1, 1, 201)
	wantBound(t, api.MaxTrace, api.MaxRoom, 1, 240)
	wantBound(t, api.MaxTrace, api.MaxRoom, api.MaxRoom, 8040)
	wantBound(t, 7, 4, 4, 32)
	// Rounded down after the multiplication: 20 / 3 and 3 * 39 / 38.
	wantBound(t, 5, 4, 2, 10)
	wantBound(t, 3, 39, 2, 42)
	wantBound(t, 199, api.MaxRoom, 20, 419)
}

func TestBoundFollowsTheDocument(t *testing.T) {
	for misses := range api.MaxTrace + 1 {
		for room := 1; room <= api.MaxRoom; room++ {
			for least := 1; least <= room; least++ {
				share := big.NewRat(int64(room*misses), int64(room-least+1))
				want := new(big.Int).Quo(share.Num(), share.Denom()).Int64() + int64(room)
				wantBound(t, misses, room, least, int(want))
			}
		}
	}
}

func TestLRUHasNoMoreMissesThanTheBound(t *testing.T) {
	for _, trace := range someTraces(rand.New(rand.NewSource(7)), 30) {
		for room := 1; room <= api.MaxRoom; room++ {
			_, hits, err := lru.Run(api.Cache{Room: room}, trace)
			if err != api.OK {
				t.Fatalf("Run: error %d", err)
			}
			for least := 1; least <= room; least += 1 + room/4 {
				most, err := optimal.Bound(mustMiss(t, trace, least), room, least)
				if misses := len(trace) - hits; err != api.OK || misses > most {
					t.Errorf("trace %v, room %d: %d misses, Bound with room %d = %d, %d", trace, room, misses, least, most, err)
				}
			}
		}
	}
}

func TestBoundRefusesNumbersOutOfRange(t *testing.T) {
	for _, misses := range keys(-1, api.MaxTrace+1, -api.MaxTrace, math.MinInt, math.MaxInt, 1<<32, 1<<32+1) {
		wantBoundError(t, misses, 1, 1, api.ErrRange)
		wantBoundError(t, misses, api.MaxRoom, 1, api.ErrRange)
		// Before the least room that is too great.
		wantBoundError(t, misses, 1, 2, api.ErrRange)
		for _, room := range notRooms() {
			wantBoundError(t, misses, room, room, api.ErrRange)
		}
	}
	for _, room := range notRooms() {
		for _, misses := range keys(0, 3, api.MaxTrace) {
			wantBoundError(t, misses, room, 1, api.ErrRange)
			wantBoundError(t, misses, room, api.MaxRoom, api.ErrRange)
			wantBoundError(t, misses, 1, room, api.ErrRange)
			wantBoundError(t, misses, api.MaxRoom, room, api.ErrRange)
			for _, least := range notRooms() {
				wantBoundError(t, misses, room, least, api.ErrRange)
			}
		}
	}
}

func TestBoundRefusesALeastRoomAboveTheRoom(t *testing.T) {
	for _, misses := range keys(0, 1, api.MaxTrace) {
		for room := 1; room <= api.MaxRoom; room++ {
			for least := room + 1; least <= api.MaxRoom; least++ {
				wantBoundError(t, misses, room, least, api.ErrState)
			}
		}
	}
}

// P2.

func TestArgumentsAreNeitherChangedNorShared(t *testing.T) {
	whole := keys(1, 2, 3, 1, 4, 2, 3, -5, -6)
	before := fmt.Sprint(whole)
	for many := range len(whole) - 1 {
		trace := whole[:many]
		for room := range 5 {
			evicted, _, err := optimal.Evictions(trace, room)
			if (err != api.OK) != (room == 0) || fmt.Sprint(whole) != before {
				t.Fatalf("Evictions of %d keys with room %d: error %d; the arguments are now %v", many, room, err, whole)
			}
			spare := evicted[:cap(evicted)]
			for i := range spare {
				spare[i] = -8
			}
			if fmt.Sprint(whole) != before {
				t.Fatalf("Evictions of %d keys with room %d returns memory of its argument: %v", many, room, whole)
			}
		}
		for i := range many {
			if _, err := optimal.Next(trace, i); err != api.OK || fmt.Sprint(whole) != before {
				t.Fatalf("Next of %d keys, %d: error %d; the arguments are now %v", many, i, err, whole)
			}
		}
	}
	if _, _, err := optimal.Evictions(whole, 2); err != api.ErrRange || fmt.Sprint(whole) != before {
		t.Errorf("Evictions of no trace: error %d; the arguments are now %v", err, whole)
	}
}
