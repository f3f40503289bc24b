package lfu_test

import (
	"cmp"
	"fmt"
	"math"
	"math/rand"
	"slices"
	"testing"

	"slopchest/api"
	"slopchest/lfu"
	"slopchest/lru"
)

// use is a key with its count.
func use(key, count int) api.Use { return api.Use{Key: key, Count: count} }

// of is the cache with this list.
func of(room int, list ...api.Use) api.Uses { return api.Uses{Room: room, List: list} }

// uses are the keys 0 to many - 1, all with the same count.
func uses(many, count int) []api.Use {
	list := make([]api.Use, many)
	for i := range list {
		list[i] = use(i, count)
	}
	return list
}

// upTo are the keys 0 to many - 1.
func upTo(many int) []int {
	keys := make([]int, many)
	for i := range keys {
		keys[i] = i
	}
	return keys
}

func equal(a, b api.Uses) bool {
	return a.Room == b.Room && slices.Equal(a.List, b.List)
}

// notKeys are numbers that are not keys.
func notKeys() []int {
	return []int{-1, api.MaxKey + 1, -api.MaxKey, math.MinInt, math.MaxInt, 1 << 32, 1<<32 + 1}
}

// notRooms are numbers that are not the room of a cache.
func notRooms() []int {
	return []int{0, -1, api.MaxRoom + 1, -api.MaxRoom, math.MinInt, math.MaxInt, 1 << 32, 1<<32 + 1}
}

// notCounts are numbers that are not the count of a key.
func notCounts() []int {
	return []int{0, -1, api.MaxCount + 1, -api.MaxCount, math.MinInt, math.MaxInt, 1 << 62}
}

func wantAccess(t *testing.T, u api.Uses, key int, want api.Uses, wantHit bool, wantEvicted int) {
	t.Helper()
	got, hit, evicted, err := lfu.Access(u, key)
	if !equal(got, want) || hit != wantHit || evicted != wantEvicted || err != api.OK {
		t.Errorf("Access(%v, %d) = %v, %t, %d, %d; want %v, %t, %d, OK", u, key, got, hit, evicted, err, want, wantHit, wantEvicted)
	}
}

func wantAccessError(t *testing.T, what string, u api.Uses, key int, want api.Errno) {
	t.Helper()
	got, hit, evicted, err := lfu.Access(u, key)
	if !equal(got, api.Uses{}) || hit || evicted != 0 || err != want {
		t.Errorf("Access of %d, %s: %v, %t, %d, %d; want zero values, %d", key, what, got, hit, evicted, err, want)
	}
}

func wantRun(t *testing.T, u api.Uses, trace []int, want api.Uses, wantHits int) {
	t.Helper()
	got, hits, err := lfu.Run(u, trace)
	if !equal(got, want) || hits != wantHits || err != api.OK {
		t.Errorf("Run(%v, %v) = %v, %d, %d; want %v, %d, OK", u, trace, got, hits, err, want, wantHits)
	}
}

func wantRunError(t *testing.T, what string, u api.Uses, trace []int, want api.Errno) {
	t.Helper()
	got, hits, err := lfu.Run(u, trace)
	if !equal(got, api.Uses{}) || hits != 0 || err != want {
		t.Errorf("Run, %s: %v, %d, %d; want zero values, %d", what, got, hits, err, want)
	}
}

func wantAge(t *testing.T, u api.Uses, want api.Uses) {
	t.Helper()
	got, err := lfu.Age(u)
	if !equal(got, want) || err != api.OK {
		t.Errorf("Age(%v) = %v, %d; want %v, OK", u, got, err, want)
	}
}

func wantVictim(t *testing.T, u api.Uses, want int) {
	t.Helper()
	if got, err := lfu.Victim(u); got != want || err != api.OK {
		t.Errorf("Victim(%v) = %d, %d; want %d, OK", u, got, err, want)
	}
}

// badCache is a cache that Check refuses.
type badCache struct {
	name string
	u    api.Uses
	want api.Errno
}

// badCaches are caches with each of the errors of Check, alone and with others.
func badCaches() []badCache {
	list := []badCache{
		{"zero", api.Uses{}, api.ErrRange},
		{"a key too many", of(1, use(1, 1), use(2, 1)), api.ErrMany},
		{"a key too many of the greatest room", of(api.MaxRoom, uses(api.MaxRoom+1, 1)...), api.ErrMany},
		{"very many keys", of(3, uses(1<<16, 1)...), api.ErrMany},
		{"twice", of(2, use(1, 1), use(1, 1)), api.ErrTwice},
		{"twice with two counts", of(2, use(1, 1), use(1, 2)), api.ErrTwice},
		{"twice, with another between", of(3, use(1, 1), use(2, 1), use(1, 1)), api.ErrTwice},
		{"twice at the end", of(4, use(2, 1), use(1, 1), use(1, 1)), api.ErrTwice},
		{"0 twice", of(3, use(0, 1), use(1, 1), use(0, 1)), api.ErrTwice},
		{"the greatest key twice", of(2, use(api.MaxKey, 1), use(api.MaxKey, 1)), api.ErrTwice},
		// The number of keys comes before the keys and the counts.
		{"many before twice", of(1, use(1, 1), use(1, 1)), api.ErrMany},
		{"many before a key out of range", of(1, use(-1, 1), use(2, 1)), api.ErrMany},
		{"many before a key out of range behind the room", of(1, use(1, 1), use(-1, 1)), api.ErrMany},
		{"many before a count", of(1, use(1, 0), use(2, 1)), api.ErrMany},
		// Of one element the first error counts, of several elements the first one.
		{"range before twice", of(2, use(-1, 1), use(-1, 1)), api.ErrRange},
		{"twice, then range", of(3, use(1, 1), use(1, 1), use(-1, 1)), api.ErrTwice},
		{"range, then twice", of(3, use(1, 1), use(-1, 1), use(1, 1)), api.ErrRange},
		{"range, then twice behind it", of(3, use(api.MaxKey+1, 1), use(1, 1), use(1, 1)), api.ErrRange},
		// The counts come behind all keys.
		{"twice before both counts", of(2, use(1, 0), use(1, 0)), api.ErrTwice},
		{"twice before an earlier count", of(3, use(2, 0), use(1, 1), use(1, 1)), api.ErrTwice},
		{"twice before a count that is too great", of(3, use(2, api.MaxCount+1), use(1, 1), use(1, 1)), api.ErrTwice},
		{"twice before a later count", of(3, use(1, 1), use(1, 1), use(2, 0)), api.ErrTwice},
	}
	for _, room := range notRooms() {
		list = append(list, badCache{fmt.Sprint("room ", room), of(room), api.ErrRange},
			badCache{fmt.Sprint("one key, room ", room), of(room, use(1, 1)), api.ErrRange},
			badCache{fmt.Sprint("room before many, ", room), of(room, uses(api.MaxRoom+5, 1)...), api.ErrRange},
			badCache{fmt.Sprint("room before twice, ", room), of(room, use(1, 1), use(1, 1)), api.ErrRange})
	}
	for at := range 4 {
		for _, key := range notKeys() {
			uses := []api.Use{use(5, 1), use(6, 2), use(7, 3), use(8, 4)}
			uses[at].Key = key
			list = append(list, badCache{fmt.Sprintf("key %d at %d", key, at), of(5, uses...), api.ErrRange})
		}
		for _, count := range notCounts() {
			uses := []api.Use{use(5, 1), use(6, 2), use(7, 3), use(8, 4)}
			uses[at].Count = count
			list = append(list, badCache{fmt.Sprintf("count %d at %d", count, at), of(4, uses...), api.ErrRange})
		}
	}
	return list
}

// badTraces are traces that lru.CheckTrace refuses.
func badTraces() [][]int {
	list := [][]int{upTo(api.MaxTrace + 1), make([]int, api.MaxTrace+1), make([]int, 1<<16)}
	for _, key := range notKeys() {
		for _, at := range []int{0, 1, 100, api.MaxTrace - 1} {
			trace := upTo(api.MaxTrace)
			trace[at] = key
			list = append(list, trace, append(slices.Clone(trace), 1))
		}
		list = append(list, []int{key})
	}
	return list
}

// goodCaches are caches that Check accepts, for calls that fail for other reasons.
func goodCaches() []api.Uses {
	return []api.Uses{of(1), of(1, use(1, 1)), of(3, use(1, 7), use(2, 3)), of(api.MaxRoom, uses(api.MaxRoom, api.MaxCount)...)}
}

// randomTrace returns keys below kinds, so that few kinds have many hits.
func randomTrace(source *rand.Rand, many, kinds int) []int {
	trace := make([]int, many)
	for i := range trace {
		trace[i] = source.Intn(kinds)
	}
	return trace
}

// randomCache returns a cache with keys below kinds, and small and great counts, many of them the same.
func randomCache(source *rand.Rand, kinds int) api.Uses {
	u := of(1 + source.Intn(api.MaxRoom))
	for _, key := range source.Perm(kinds)[:source.Intn(min(u.Room, kinds)+1)] {
		count := 1 + source.Intn(4)
		if source.Intn(4) == 0 {
			count = api.MaxCount - source.Intn(3)
		}
		u.List = append(u.List, use(key, count))
	}
	return u
}

// record is how often a key was used, and when it was used last.
type record struct{ count, last int }

// log is a cache as a map with times instead of a list in their order.
type log struct {
	room, now int
	records   map[int]record
}

func newLog(u api.Uses) *log {
	g := &log{room: u.Room, now: len(u.List), records: map[int]record{}}
	for i, e := range u.List {
		g.records[e.Key] = record{count: e.Count, last: len(u.List) - i}
	}
	return g
}

// cache returns the records as a list, the one used last first.
func (g *log) cache() api.Uses {
	u := of(g.room)
	for key, r := range g.records {
		u.List = append(u.List, use(key, r.count))
	}
	slices.SortFunc(u.List, func(a, b api.Use) int {
		return cmp.Compare(g.records[b.Key].last, g.records[a.Key].last)
	})
	return u
}

// victim returns the first key by count and then by time.
func (g *log) victim() int {
	var keys []int
	for key := range g.records {
		keys = append(keys, key)
	}
	return slices.MinFunc(keys, func(a, b int) int {
		x, y := g.records[a], g.records[b]
		return cmp.Or(cmp.Compare(x.count, y.count), cmp.Compare(x.last, y.last))
	})
}

// access follows the document.
func (g *log) access(key int) (hit bool, evicted int) {
	g.now++
	if r, ok := g.records[key]; ok {
		if r.count < api.MaxCount {
			r.count++
		}
		g.records[key] = record{r.count, g.now}
		return true, -1
	}
	evicted = -1
	if len(g.records) == g.room {
		evicted = g.victim()
		delete(g.records, evicted)
	}
	g.records[key] = record{1, g.now}
	return false, evicted
}

// H1.

func TestCheckRefuses(t *testing.T) {
	for _, b := range badCaches() {
		if got := lfu.Check(b.u); got != b.want {
			t.Errorf("Check, %s: %d, want %d", b.name, got, b.want)
		}
	}
}

func TestCheckAccepts(t *testing.T) {
	list := []api.Uses{of(1), of(1, []api.Use{}...), of(1, use(0, 1)), of(1, use(api.MaxKey, api.MaxCount)), of(2, use(api.MaxKey, 1), use(0, 2)), of(3, use(2, 1), use(1, 1))}
	for room := 1; room <= api.MaxRoom; room++ {
		for many := range room + 1 {
			list = append(list, of(room, uses(many, 1)...), of(room, uses(many, 2)...), of(room, uses(many, api.MaxCount)...))
		}
	}
	for _, u := range list {
		if got := lfu.Check(u); got != api.OK {
			t.Errorf("Check(%v) = %d, want OK", u, got)
		}
	}
}

func TestCheckFindsAKeyTwiceAtAnyTwoIndices(t *testing.T) {
	for second := range api.MaxRoom {
		for first := range second {
			list := uses(api.MaxRoom, 1)
			list[second] = use(first, 2)
			if got := lfu.Check(of(api.MaxRoom, list...)); got != api.ErrTwice {
				t.Errorf("Check, the same key at %d and %d: %d, want %d", first, second, got, api.ErrTwice)
			}
		}
	}
}

func TestCheckFindsACountAtAnyIndex(t *testing.T) {
	for at := range api.MaxRoom {
		for _, count := range notCounts() {
			list := uses(api.MaxRoom, 1)
			list[at].Count = count
			if got := lfu.Check(of(api.MaxRoom, list...)); got != api.ErrRange {
				t.Errorf("Check, count %d at %d: %d, want %d", count, at, got, api.ErrRange)
			}
		}
	}
}

// H2: Victim.

func TestVictimHasTheSmallestCount(t *testing.T) {
	wantVictim(t, of(2, use(1, 2), use(2, 1)), 2)
	wantVictim(t, of(2, use(2, 1), use(1, 2)), 2)
	wantVictim(t, of(1, use(0, 5)), 0)
	wantVictim(t, of(3, use(api.MaxKey, api.MaxCount)), api.MaxKey)
	wantVictim(t, of(3, use(5, 3), use(6, 2), use(7, 3)), 6)
	wantVictim(t, of(2, use(5, api.MaxCount-1), use(6, api.MaxCount)), 5)
	for many := 1; many <= api.MaxRoom; many++ {
		for at := range many {
			list := uses(many, 3)
			list[at].Count = 2
			wantVictim(t, of(api.MaxRoom, list...), at)
			wantVictim(t, of(many, list...), at)
		}
	}
}

func TestVictimOfSeveralIsTheLastOne(t *testing.T) {
	wantVictim(t, of(3, use(5, 1), use(6, 1), use(7, 2)), 6)
	wantVictim(t, of(3, use(6, 1), use(5, 1), use(7, 2)), 5)
	wantVictim(t, of(4, use(5, 1), use(6, 2), use(7, 1), use(8, 2)), 7)
	for many := 1; many <= api.MaxRoom; many++ {
		wantVictim(t, of(api.MaxRoom, uses(many, 1)...), many-1)
		wantVictim(t, of(many, uses(many, api.MaxCount)...), many-1)
		for at := range many {
			list := uses(many, 3)
			list[0].Count, list[at].Count = 2, 2
			wantVictim(t, of(many, list...), at)
		}
	}
}

func TestVictimFollowsTheDocument(t *testing.T) {
	source := rand.New(rand.NewSource(1))
	for range 2000 {
		if u := randomCache(source, 2*api.MaxRoom); len(u.List) > 0 {
			wantVictim(t, u, newLog(u).victim())
		}
	}
}

func TestVictimOfNoKeys(t *testing.T) {
	for room := 1; room <= api.MaxRoom; room++ {
		for _, u := range []api.Uses{of(room), of(room, []api.Use{}...)} {
			if got, err := lfu.Victim(u); got != 0 || err != api.ErrNone {
				t.Errorf("Victim(%v) = %d, %d; want 0, %d", u, got, err, api.ErrNone)
			}
		}
	}
}

func TestVictimFirstReturnsTheErrorOfCheck(t *testing.T) {
	for _, b := range badCaches() {
		if got, err := lfu.Victim(b.u); got != 0 || err != b.want {
			t.Errorf("Victim, %s: %d, %d; want 0, %d", b.name, got, err, b.want)
		}
	}
}

// H2: Access.

func TestAccessOfTheExample(t *testing.T) {
	wantAccess(t, of(2, use(1, 2), use(2, 1)), 3, of(2, use(3, 1), use(1, 2)), false, 2)
	wantAccess(t, of(2, use(2, 1), use(1, 2)), 3, of(2, use(3, 1), use(1, 2)), false, 2)
}

func TestAccessOfACachedKeyMovesAndCountsIt(t *testing.T) {
	for _, room := range []int{3, 4, api.MaxRoom} {
		u := of(room, use(7, 4), use(0, 1), use(9, 2))
		wantAccess(t, u, 7, of(room, use(7, 5), use(0, 1), use(9, 2)), true, -1)
		wantAccess(t, u, 0, of(room, use(0, 2), use(7, 4), use(9, 2)), true, -1)
		wantAccess(t, u, 9, of(room, use(9, 3), use(7, 4), use(0, 1)), true, -1)
	}
	wantAccess(t, of(1, use(api.MaxKey, 1)), api.MaxKey, of(1, use(api.MaxKey, 2)), true, -1)
}

func TestAccessCountsUpToTheGreatestCount(t *testing.T) {
	wantAccess(t, of(2, use(1, api.MaxCount-2), use(2, 1)), 1, of(2, use(1, api.MaxCount-1), use(2, 1)), true, -1)
	wantAccess(t, of(2, use(1, api.MaxCount-1), use(2, 1)), 1, of(2, use(1, api.MaxCount), use(2, 1)), true, -1)
	wantAccess(t, of(2, use(1, api.MaxCount), use(2, 1)), 1, of(2, use(1, api.MaxCount), use(2, 1)), true, -1)
	wantAccess(t, of(2, use(1, 1), use(2, api.MaxCount)), 2, of(2, use(2, api.MaxCount), use(1, 1)), true, -1)
}

func TestAccessInsertsWhileThereIsRoom(t *testing.T) {
	wantAccess(t, of(1), 0, of(1, use(0, 1)), false, -1)
	wantAccess(t, of(2, []api.Use{}...), api.MaxKey, of(2, use(api.MaxKey, 1)), false, -1)
	wantAccess(t, of(3, use(1, 5), use(2, 1)), 3, of(3, use(3, 1), use(1, 5), use(2, 1)), false, -1)
	var want []api.Use
	u := of(api.MaxRoom)
	for key := range api.MaxRoom {
		want = append([]api.Use{use(key, 1)}, want...)
		next := of(api.MaxRoom, want...)
		wantAccess(t, u, key, next, false, -1)
		u = next
	}
}

func TestAccessEvictsTheVictim(t *testing.T) {
	wantAccess(t, of(1, use(5, api.MaxCount)), 0, of(1, use(0, 1)), false, 5)
	wantAccess(t, of(1, use(0, 1)), 5, of(1, use(5, 1)), false, 0)
	wantAccess(t, of(3, use(1, 1), use(2, 2), use(3, 3)), 4, of(3, use(4, 1), use(2, 2), use(3, 3)), false, 1)
	wantAccess(t, of(3, use(1, 2), use(2, 2), use(3, 3)), 4, of(3, use(4, 1), use(1, 2), use(3, 3)), false, 2)
	wantAccess(t, of(3, use(1, 2), use(2, 2), use(3, 2)), 4, of(3, use(4, 1), use(1, 2), use(2, 2)), false, 3)
	// The new key is not evicted, though its count is the smallest one.
	for room := 1; room <= api.MaxRoom; room++ {
		for at := range room {
			list := uses(room, 9)
			list[at].Count = 8
			want := slices.Insert(slices.Delete(slices.Clone(list), at, at+1), 0, use(1000, 1))
			wantAccess(t, of(room, list...), 1000, of(room, want...), false, at)
		}
	}
}

func TestAccessRefusesNumbersThatAreNotKeys(t *testing.T) {
	for _, u := range goodCaches() {
		for _, key := range notKeys() {
			wantAccessError(t, fmt.Sprint(u), u, key, api.ErrRange)
		}
	}
}

func TestAccessFirstReturnsTheErrorOfCheck(t *testing.T) {
	for _, b := range badCaches() {
		for _, key := range append(notKeys(), 0, 1, 2, api.MaxKey) {
			wantAccessError(t, b.name, b.u, key, b.want)
		}
	}
}

func TestAccessFollowsTheDocument(t *testing.T) {
	source := rand.New(rand.NewSource(2))
	for range 400 {
		kinds := 1 + source.Intn(2*api.MaxRoom)
		u := randomCache(source, kinds)
		g := newLog(u)
		for _, key := range randomTrace(source, 100, kinds) {
			hit, evicted := g.access(key)
			want := g.cache()
			wantAccess(t, u, key, want, hit, evicted)
			if err := lfu.Check(want); err != api.OK {
				t.Errorf("Check of the result of Access = %d, want OK", err)
			}
			u = want
		}
	}
}

func TestAccessEvictsWhatVictimReturns(t *testing.T) {
	source := rand.New(rand.NewSource(3))
	for range 1000 {
		u := randomCache(source, 2*api.MaxRoom)
		if len(u.List) == 0 {
			continue
		}
		u.Room = len(u.List)
		want, err := lfu.Victim(u)
		if err != api.OK {
			t.Fatalf("Victim(%v): error %d", u, err)
		}
		if _, hit, got, err := lfu.Access(u, 1000); hit || got != want || err != api.OK {
			t.Errorf("Access(%v, 1000): %t, %d, %d; want false, %d, OK", u, hit, got, err, want)
		}
	}
}

// Run, which has no number in the document.

func TestRunOfKnownTraces(t *testing.T) {
	wantRun(t, of(2), []int{1, 1, 2, 3, 1}, of(2, use(1, 3), use(3, 1)), 2)
	wantRun(t, of(1), []int{1, 1, 2, 1, 1}, of(1, use(1, 2)), 2)
	// With the same counts the key that was not used for longest goes.
	wantRun(t, of(3), []int{1, 2, 3, 4, 1, 2, 3, 4}, of(3, use(4, 1), use(3, 1), use(2, 1)), 0)
	wantRun(t, of(4), []int{1, 2, 3, 4, 1, 2, 3, 4}, of(4, use(4, 2), use(3, 2), use(2, 2), use(1, 2)), 4)
	// The keys that were there before count as hits, and keep their counts.
	wantRun(t, of(3, use(5, 1), use(6, 9), use(7, 2)), []int{7, 6, 5}, of(3, use(5, 2), use(6, 10), use(7, 3)), 3)
	// A key that was evicted begins again with 1.
	wantRun(t, of(2, use(5, 3), use(6, 2)), []int{0, 6, 0}, of(2, use(0, 1), use(5, 3)), 0)
	wantRun(t, of(1, use(0, 1)), make([]int, api.MaxTrace), of(1, use(0, api.MaxTrace+1)), api.MaxTrace)
	wantRun(t, of(1, use(0, api.MaxCount-100)), make([]int, api.MaxTrace), of(1, use(0, api.MaxCount)), api.MaxTrace)
	wantRun(t, of(1), slices.Repeat([]int{api.MaxKey}, api.MaxTrace), of(1, use(api.MaxKey, api.MaxTrace)), api.MaxTrace-1)
	var last []api.Use
	for key := api.MaxTrace - 1; key >= api.MaxTrace-api.MaxRoom; key-- {
		last = append(last, use(key, 1))
	}
	wantRun(t, of(api.MaxRoom), upTo(api.MaxTrace), of(api.MaxRoom, last...), 0)
}

func TestRunOfTheEmptyTraceReturnsTheCache(t *testing.T) {
	for _, trace := range [][]int{nil, {}} {
		for _, u := range goodCaches() {
			wantRun(t, u, trace, u, 0)
		}
	}
}

func TestRunFollowsTheDocument(t *testing.T) {
	source := rand.New(rand.NewSource(4))
	for range 1000 {
		kinds := 1 + source.Intn(2*api.MaxRoom)
		u := randomCache(source, kinds)
		trace := randomTrace(source, source.Intn(api.MaxTrace+1), kinds)
		g, hits := newLog(u), 0
		for _, key := range trace {
			if hit, _ := g.access(key); hit {
				hits++
			}
		}
		wantRun(t, u, trace, g.cache(), hits)
	}
}

func TestRunIsOneAccessAfterAnother(t *testing.T) {
	source := rand.New(rand.NewSource(5))
	for range 200 {
		kinds := 1 + source.Intn(2*api.MaxRoom)
		u := randomCache(source, kinds)
		trace := randomTrace(source, source.Intn(api.MaxTrace+1), kinds)
		got, hits := u, 0
		for _, key := range trace {
			next, hit, _, err := lfu.Access(got, key)
			if err != api.OK {
				t.Fatalf("Access: error %d", err)
			}
			got = next
			if hit {
				hits++
			}
		}
		wantRun(t, u, trace, got, hits)
	}
}

func TestRunRefusesBadTraces(t *testing.T) {
	for _, trace := range badTraces() {
		want := lru.CheckTrace(trace)
		if want == api.OK {
			t.Fatalf("CheckTrace(%v) = OK", trace)
		}
		for _, u := range goodCaches() {
			wantRunError(t, fmt.Sprintf("%d keys", len(trace)), u, trace, want)
		}
	}
	wantRunError(t, "a key too many", of(1), upTo(api.MaxTrace+1), api.ErrMany)
	wantRunError(t, "a key out of range at the end", of(1), []int{1, 2, -1}, api.ErrRange)
}

func TestRunFirstReturnsTheErrorOfCheck(t *testing.T) {
	for _, b := range badCaches() {
		for _, trace := range [][]int{nil, {1, 2}, {-1}, upTo(api.MaxTrace + 1)} {
			wantRunError(t, b.name, b.u, trace, b.want)
		}
	}
}

// H3.

func TestAgeOfTheExample(t *testing.T) {
	wantAge(t, of(2, use(1, 5), use(2, 1)), of(2, use(1, 2), use(2, 1)))
}

func TestAgeHalvesEveryCount(t *testing.T) {
	wantAge(t, of(1), of(1))
	wantAge(t, of(3, []api.Use{}...), of(3))
	for _, c := range []struct{ count, want int }{
		{1, 1}, {2, 1}, {3, 1}, {4, 2}, {5, 2}, {6, 3}, {7, 3}, {1 << 20, 1 << 19},
		{1<<32 + 1, 1 << 31}, {1<<33 + 3, 1<<32 + 1}, {api.MaxCount - 1, 1<<39 - 1}, {api.MaxCount, 1 << 39},
	} {
		for many := 1; many <= api.MaxRoom; many++ {
			wantAge(t, of(api.MaxRoom, uses(many, c.count)...), of(api.MaxRoom, uses(many, c.want)...))
			wantAge(t, of(many, uses(many, c.count)...), of(many, uses(many, c.want)...))
		}
	}
}

func TestAgeKeepsTheOrder(t *testing.T) {
	wantAge(t, of(4, use(3, 1), use(0, 9), use(api.MaxKey, 4), use(1, 100)), of(4, use(3, 1), use(0, 4), use(api.MaxKey, 2), use(1, 50)))
	// Counts that become the same leave the choice to the order.
	u := of(2, use(1, 2), use(2, 3))
	aged, _ := lfu.Age(u)
	wantVictim(t, u, 1)
	wantVictim(t, aged, 2)
}

func TestAgeOfMixedCounts(t *testing.T) {
	source := rand.New(rand.NewSource(6))
	for range 500 {
		u := randomCache(source, 2*api.MaxRoom)
		want := of(u.Room)
		for _, e := range u.List {
			half := e.Count >> 1
			if half == 0 {
				half = 1
			}
			want.List = append(want.List, use(e.Key, half))
		}
		wantAge(t, u, want)
	}
}

func TestAgeOftenEnoughMakesAllCounts1(t *testing.T) {
	u := of(api.MaxRoom, uses(api.MaxRoom, api.MaxCount)...)
	for range 40 {
		next, err := lfu.Age(u)
		if err != api.OK {
			t.Fatalf("Age(%v): error %d", u, err)
		}
		u = next
	}
	if want := of(api.MaxRoom, uses(api.MaxRoom, 1)...); !equal(u, want) {
		t.Errorf("40 times Age of the greatest count: %v, want %v", u, want)
	}
	wantAge(t, u, u)
}

func TestAgeReturnsTheErrorOfCheck(t *testing.T) {
	for _, b := range badCaches() {
		if got, err := lfu.Age(b.u); !equal(got, api.Uses{}) || err != b.want {
			t.Errorf("Age, %s: %v, %d; want zero values, %d", b.name, got, err, b.want)
		}
	}
}

// P2.

// spareUses is a list with spare capacity; all returns everything in its memory.
func spareUses(list ...api.Use) (result []api.Use, all func() string) {
	whole := append(slices.Clone(list), use(-5, -5), use(-6, -6), use(-7, -7))
	return whole[:len(list)], func() string { return fmt.Sprint(whole[:cap(whole)]) }
}

// overwrite fills the whole memory of a list.
func overwrite(list []api.Use) {
	list = list[:cap(list)]
	for i := range list {
		list[i] = use(-8, -8)
	}
}

func TestArgumentsAreNeitherChangedNorShared(t *testing.T) {
	for _, room := range []int{3, 4, 6} {
		list, all := spareUses(use(1, 4), use(2, 2), use(3, 2))
		trace := []int{3, 1, 4, 2, 2, 5, 1, 6, -5, -6}
		u, before, traceBefore := of(room, list...), all(), fmt.Sprint(trace)
		check := func(what string, got api.Uses, err, want api.Errno) {
			t.Helper()
			overwrite(got.List)
			if err != want || all() != before || fmt.Sprint(trace) != traceBefore {
				t.Fatalf("%s: error %d, want %d; the arguments are now %s, %v", what, err, want, all(), trace)
			}
		}
		check("Check", api.Uses{}, lfu.Check(u), api.OK)
		_, err := lfu.Victim(u)
		check("Victim", api.Uses{}, err, api.OK)
		for key := range 5 {
			got, _, _, err := lfu.Access(u, key)
			check(fmt.Sprint("Access of ", key), got, err, api.OK)
		}
		for many := range 9 {
			got, _, err := lfu.Run(u, trace[:many])
			check(fmt.Sprintf("Run of %d keys", many), got, err, api.OK)
		}
		got, err := lfu.Age(u)
		check("Age", got, err, api.OK)
		got, _, _, err = lfu.Access(u, -1)
		check("Access of no key", got, err, api.ErrRange)
		got, _, err = lfu.Run(u, trace)
		check("Run of no trace", got, err, api.ErrRange)
	}
}
