package expire_test

import (
	"fmt"
	"maps"
	"math"
	"math/rand"
	"slices"
	"testing"

	"slopchest/api"
	"slopchest/expire"
)

// lastUntil is the latest tick at which an entry may expire.
const lastUntil = api.MaxTick + api.MaxLife

// entry is an entry with a key, a value and the tick at which it expires.
func entry(key, value, until int) api.Entry {
	return api.Entry{Key: key, Value: value, Until: until}
}

// store is a store with a lifetime and entries.
func store(life int, entries ...api.Entry) api.Store {
	return api.Store{Life: life, Entries: entries}
}

// three is a store with entries that expire at 30, 20 and 40, not in the order of their keys.
func three() api.Store {
	return store(10, entry(3, -7, 30), entry(5, 0, 20), entry(8, 9, 40))
}

// row are many entries whose keys begin with one and rise by a step; they expire at 100, 101 and so on.
func row(many, from, step int) []api.Entry {
	list := make([]api.Entry, many)
	for i := range list {
		list[i] = entry(from+i*step, 2*i-7, 100+i)
	}
	return list
}

// same are many entries that all expire at one tick.
func same(many, until int) []api.Entry {
	list := row(many, 0, 2)
	for i := range list {
		list[i].Until = until
	}
	return list
}

// goodStores are stores with at least one entry that Check accepts.
func goodStores() []api.Store {
	return []api.Store{
		three(), store(1, entry(0, 0, 0)), store(api.MaxLife, entry(api.MaxKey, api.MaxValue, lastUntil)), store(7, entry(1, -api.MaxValue, 9)),
		store(2, entry(0, api.MaxValue, lastUntil), entry(api.MaxKey, -api.MaxValue, 0)), store(3, entry(0, 1, 5), entry(1, 1, 5)),
		store(3, entry(api.MaxKey-1, 1, 5), entry(api.MaxKey, 1, 5)), store(5, entry(4, 4, api.MaxTick), entry(6, 6, api.MaxTick+1)),
		store(1, row(api.MaxEntries, 0, 1)...), store(api.MaxLife, row(api.MaxEntries, api.MaxKey-api.MaxEntries+1, 1)...),
		store(8, row(api.MaxEntries, 0, 26214)...), store(8, row(api.MaxEntries-1, 5, 7)...), store(1, same(api.MaxEntries, 50)...),
		store(1, same(api.MaxEntries, lastUntil)...), store(1, same(api.MaxEntries, 0)...),
	}
}

// emptyStores are stores without entries that Check accepts.
func emptyStores() []api.Store {
	return []api.Store{store(1), {Life: 10, Entries: []api.Entry{}}, store(api.MaxLife), {Life: 5, Entries: three().Entries[:0]}}
}

// allGood are all stores that Check accepts.
func allGood() []api.Store { return append(goodStores(), emptyStores()...) }

// notTicks are numbers that are not ticks.
func notTicks() []int {
	return []int{-1, -5, -api.MaxTick, api.MaxTick + 1, api.MaxTick + api.MaxLife, math.MinInt, math.MaxInt, 1 << 48}
}

// notKeys are numbers that are not keys.
func notKeys() []int {
	return []int{-1, -3, -api.MaxKey, api.MaxKey + 1, api.MaxKey + 3, math.MinInt, math.MaxInt, 1 << 32, 1<<32 + 3}
}

// notValues are numbers that are not values.
func notValues() []int {
	return []int{-api.MaxValue - 1, api.MaxValue + 1, math.MinInt, math.MaxInt, 1 << 48, -1 << 48}
}

// bad is a store that Check refuses, and the error with which it does so.
type bad struct {
	name string
	l    api.Store
	want api.Errno
}

// badStores are stores that Check refuses.
func badStores() []bad {
	full := row(api.MaxEntries, 0, 1)
	list := []bad{
		{"zero value", api.Store{}, api.ErrRange},
		{"too many", store(1, row(api.MaxEntries+1, 0, 1)...), api.ErrMany},
		{"far too many", store(1, row(1000, 0, 1)...), api.ErrMany},
		{"too many zero values", store(1, make([]api.Entry, api.MaxEntries+1)...), api.ErrMany},
		{"too many, a bad key first", store(1, append([]api.Entry{entry(-1, 0, 0)}, full...)...), api.ErrMany},
		{"too many, a bad value first", store(1, append([]api.Entry{entry(0, api.MaxValue+1, 0)}, row(api.MaxEntries, 1, 1)...)...), api.ErrMany},
		{"too many, a bad tick first", store(1, append([]api.Entry{entry(0, 0, -1)}, row(api.MaxEntries, 1, 1)...)...), api.ErrMany},
		{"MaxEntries zero values", store(1, make([]api.Entry, api.MaxEntries)...), api.ErrState},
		{"same key", store(1, entry(5, 1, 1), entry(5, 2, 2)), api.ErrState},
		{"same entry", store(1, entry(5, 1, 1), entry(5, 1, 1)), api.ErrState},
		{"first key twice", store(1, entry(0, 1, 1), entry(0, 2, 2)), api.ErrState},
		{"last key twice", store(1, entry(api.MaxKey, 1, 1), entry(api.MaxKey, 2, 2)), api.ErrState},
		{"falling", store(1, entry(6, 1, 1), entry(5, 2, 2)), api.ErrState},
		{"falling from the last key to the first", store(1, entry(api.MaxKey, 1, 1), entry(0, 2, 2)), api.ErrState},
		{"falling at the end, but greater than the first", store(1, entry(4, 0, 0), entry(6, 0, 0), entry(5, 0, 0)), api.ErrState},
		{"falling in the middle", store(1, entry(4, 0, 0), entry(6, 0, 0), entry(5, 0, 0), entry(7, 0, 0)), api.ErrState},
		{"key before order", store(1, entry(5, 0, 0), entry(-1, 0, 0)), api.ErrRange},
		{"value before order", store(1, entry(5, 0, 0), entry(5, api.MaxValue+1, 0)), api.ErrRange},
		{"tick before order", store(1, entry(5, 0, 0), entry(4, 0, -1)), api.ErrRange},
		{"order of the second before key of the third", store(1, entry(5, 0, 0), entry(5, 0, 0), entry(-1, 0, 0)), api.ErrState},
		{"order of the second before value of the third", store(1, entry(5, 0, 0), entry(4, 0, 0), entry(6, -api.MaxValue-1, 0)), api.ErrState},
		{"order of the second before tick of the third", store(1, entry(5, 0, 0), entry(4, 0, 0), entry(6, 0, -1)), api.ErrState},
		{"key of the first before order of the second", store(1, entry(api.MaxKey+1, 0, 0), entry(5, 0, 0)), api.ErrRange},
		{"tick of the second before order of the third", store(1, entry(5, 0, 0), entry(6, 0, lastUntil+1), entry(5, 0, 0)), api.ErrRange},
	}
	for _, n := range []int{0, -1, -api.MaxLife, api.MaxLife + 1, math.MinInt, math.MaxInt, 1 << 32, 1<<32 + 1} {
		list = append(list, bad{fmt.Sprint("life ", n), store(n), api.ErrRange},
			bad{fmt.Sprint("life before entries ", n), store(n, row(api.MaxEntries+1, 0, 1)...), api.ErrRange},
			bad{fmt.Sprint("life before order ", n), store(n, entry(5, 1, 1), entry(5, 1, 1)), api.ErrRange})
	}
	addBad := func(name string, e api.Entry) {
		list = append(list, bad{name, store(1, e), api.ErrRange}, bad{name + " at the end", store(1, append(row(api.MaxEntries-1, 0, 1), e)...), api.ErrRange})
	}
	for _, n := range notKeys() {
		addBad(fmt.Sprint("key ", n), entry(n, 0, 0))
	}
	for _, n := range notValues() {
		addBad(fmt.Sprint("value ", n), entry(1000, n, 0))
	}
	for _, n := range []int{-1, -api.MaxTick, lastUntil + 1, math.MinInt, math.MaxInt, 1 << 48} {
		addBad(fmt.Sprint("tick ", n), entry(1000, 0, n))
	}
	return list
}

func wantPut(t *testing.T, l api.Store, key, value, now int, want ...api.Entry) {
	t.Helper()
	got, err := expire.Put(l, key, value, now)
	if got.Life != l.Life || !slices.Equal(got.Entries, want) || err != api.OK {
		t.Errorf("Put(%v, %d, %d, %d) = %v, %d; want entries %v, OK", l, key, value, now, got, err, want)
	}
}

func wantPutError(t *testing.T, what string, l api.Store, key, value, now int, want api.Errno) {
	t.Helper()
	if got, err := expire.Put(l, key, value, now); got.Life != 0 || len(got.Entries) != 0 || err != want {
		t.Errorf("Put, %s, of %d, %d at %d = %v, %d; want the zero value, %d", what, key, value, now, got, err, want)
	}
}

func wantGet(t *testing.T, l api.Store, key, now, want int, wantFound bool) {
	t.Helper()
	if got, found, err := expire.Get(l, key, now); got != want || found != wantFound || err != api.OK {
		t.Errorf("Get(%v, %d, %d) = %d, %t, %d; want %d, %t, OK", l, key, now, got, found, err, want, wantFound)
	}
}

func wantGetError(t *testing.T, what string, l api.Store, key, now int, want api.Errno) {
	t.Helper()
	if got, found, err := expire.Get(l, key, now); got != 0 || found || err != want {
		t.Errorf("Get, %s, of %d at %d = %d, %t, %d; want 0, false, %d", what, key, now, got, found, err, want)
	}
}

func wantSweep(t *testing.T, l api.Store, now int, wantExpired []int, want ...api.Entry) {
	t.Helper()
	got, expired, err := expire.Sweep(l, now)
	if got.Life != l.Life || !slices.Equal(got.Entries, want) || !slices.Equal(expired, wantExpired) || err != api.OK {
		t.Errorf("Sweep(%v, %d) = %v, %v, %d; want entries %v, %v, OK", l, now, got, expired, err, want, wantExpired)
	}
}

func wantSweepError(t *testing.T, what string, l api.Store, now int, want api.Errno) {
	t.Helper()
	if got, expired, err := expire.Sweep(l, now); got.Life != 0 || len(got.Entries) != 0 || len(expired) != 0 || err != want {
		t.Errorf("Sweep, %s, at %d = %v, %v, %d; want zero values, %d", what, now, got, expired, err, want)
	}
}

func wantNext(t *testing.T, l api.Store, want int) {
	t.Helper()
	if got, err := expire.Next(l); got != want || err != api.OK {
		t.Errorf("Next(%v) = %d, %d; want %d, OK", l, got, err, want)
	}
}

func wantNextError(t *testing.T, what string, l api.Store, want api.Errno) {
	t.Helper()
	if got, err := expire.Next(l); got != 0 || err != want {
		t.Errorf("Next, %s = %d, %d; want 0, %d", what, got, err, want)
	}
}

// slow is a store as a map from keys to entries.
type slow map[int]api.Entry

// slowly returns the entries of a store as a map.
func slowly(l api.Store) slow {
	m := slow{}
	for _, e := range l.Entries {
		m[e.Key] = e
	}
	return m
}

// sweep deletes the entries that are expired, and returns their keys.
func (m slow) sweep(now int) []int {
	var keys []int
	for _, key := range slices.Sorted(maps.Keys(m)) {
		if m[key].Until-now <= 0 {
			keys = append(keys, key)
			delete(m, key)
		}
	}
	return keys
}

// list are the entries by rising keys.
func (m slow) list() []api.Entry {
	var list []api.Entry
	for _, key := range slices.Sorted(maps.Keys(m)) {
		list = append(list, m[key])
	}
	return list
}

// randomStore is a store with many entries, which expire at ticks from 0 to 2 * most.
func randomStore(source *rand.Rand, many, most int) api.Store {
	l := api.Store{Life: 1 + source.Intn(most)}
	keys := source.Perm(2 * api.MaxEntries)[:many]
	slices.Sort(keys)
	for _, key := range keys {
		l.Entries = append(l.Entries, entry(key, source.Intn(19)-9, source.Intn(2*most+1)))
	}
	return l
}

// Q1.

func TestCheckAcceptsStores(t *testing.T) {
	for _, l := range allGood() {
		if err := expire.Check(l); err != api.OK {
			t.Errorf("Check(%v) = %d, want OK", l, err)
		}
	}
	for many := range api.MaxEntries + 1 {
		if err := expire.Check(store(many+1, row(many, many, 1000)...)); err != api.OK {
			t.Errorf("Check of %d entries = %d, want OK", many, err)
		}
	}
	for shift := range 31 {
		if err := expire.Check(store(1 << shift)); err != api.OK {
			t.Errorf("Check of a lifetime of %d = %d, want OK", 1<<shift, err)
		}
	}
}

func TestCheckReturnsTheFirstError(t *testing.T) {
	for _, b := range badStores() {
		if err := expire.Check(b.l); err != b.want {
			t.Errorf("Check, %s = %d, want %d", b.name, err, b.want)
		}
	}
}

func TestCheckLooksAtEveryEntry(t *testing.T) {
	for i := range api.MaxEntries {
		check := func(e api.Entry, want api.Errno) {
			t.Helper()
			l := store(1, row(api.MaxEntries, 1000, 100)...)
			l.Entries[i] = e
			if err := expire.Check(l); err != want {
				t.Errorf("Check with %v as entry %d = %d, want %d", e, i, err, want)
			}
		}
		key := 1000 + 100*i
		check(entry(-1, 0, 0), api.ErrRange)
		check(entry(api.MaxKey+1, 0, 0), api.ErrRange)
		check(entry(key, api.MaxValue+1, 0), api.ErrRange)
		check(entry(key, -api.MaxValue-1, 0), api.ErrRange)
		check(entry(key, 0, -1), api.ErrRange)
		check(entry(key, 0, lastUntil+1), api.ErrRange)
		check(entry(key-99, api.MaxValue, lastUntil), api.OK)
		check(entry(key+99, -api.MaxValue, 0), api.OK)
		if i > 0 {
			check(entry(key-100, 0, 0), api.ErrState)
			check(entry(0, 0, 0), api.ErrState)
		}
		if i < api.MaxEntries-1 {
			check(entry(key+100, 0, 0), api.ErrState)
			check(entry(api.MaxKey, 0, 0), api.ErrState)
		}
	}
}

// Q2.

func TestExampleOfExpiry(t *testing.T) {
	l, err := expire.Put(store(10), 4, 7, 5)
	if err != api.OK {
		t.Fatalf("Put: error %d", err)
	}
	for _, now := range []int{0, 4, 5, 6, 13, 14} {
		wantGet(t, l, 4, now, 7, true)
		wantSweep(t, l, now, nil, entry(4, 7, 15))
	}
	for _, now := range []int{15, 16, 1000, api.MaxTick} {
		wantGet(t, l, 4, now, 0, false)
		wantSweep(t, l, now, []int{4})
	}
}

func TestSweepRemovesExpiredEntries(t *testing.T) {
	a, b, c := entry(3, -7, 30), entry(5, 0, 20), entry(8, 9, 40)
	wantSweep(t, three(), 0, nil, a, b, c)
	wantSweep(t, three(), 19, nil, a, b, c)
	wantSweep(t, three(), 20, []int{5}, a, c)
	wantSweep(t, three(), 29, []int{5}, a, c)
	wantSweep(t, three(), 30, []int{3, 5}, c)
	wantSweep(t, three(), 39, []int{3, 5}, c)
	wantSweep(t, three(), 40, []int{3, 5, 8})
	wantSweep(t, three(), api.MaxTick, []int{3, 5, 8})
}

func TestSweepAtTheEndsOfTheTicks(t *testing.T) {
	wantSweep(t, store(1, entry(2, 3, 0), entry(4, 5, 1)), 0, []int{2}, entry(4, 5, 1))
	late := store(1, entry(2, 3, api.MaxTick-1), entry(4, 5, api.MaxTick), entry(6, 7, api.MaxTick+1), entry(8, 9, lastUntil))
	wantSweep(t, late, api.MaxTick, []int{2, 4}, late.Entries[2:]...)
	wantSweep(t, late, api.MaxTick-1, []int{2}, late.Entries[1:]...)
	wantSweep(t, late, api.MaxTick-2, nil, late.Entries...)
}

func TestSweepOfAllOrNoEntries(t *testing.T) {
	full := store(1, same(api.MaxEntries, 50)...)
	var keys []int
	for _, e := range full.Entries {
		keys = append(keys, e.Key)
	}
	wantSweep(t, full, 49, nil, full.Entries...)
	wantSweep(t, full, 50, keys)
	for _, l := range emptyStores() {
		wantSweep(t, l, 0, nil)
		wantSweep(t, l, api.MaxTick, nil)
	}
}

func TestSweepOfRandomStores(t *testing.T) {
	source := rand.New(rand.NewSource(1))
	for range 2000 {
		l := randomStore(source, source.Intn(api.MaxEntries+1), 12)
		now := source.Intn(26)
		m := slowly(l)
		keys := m.sweep(now)
		wantSweep(t, l, now, keys, m.list()...)
	}
}

func TestSweepTwiceIsSweepAtTheLaterTick(t *testing.T) {
	source := rand.New(rand.NewSource(2))
	for range 500 {
		l := randomStore(source, source.Intn(api.MaxEntries+1), 12)
		first, second := source.Intn(26), source.Intn(26)
		once, _, _ := expire.Sweep(l, max(first, second))
		m, _, _ := expire.Sweep(l, first)
		twice, _, err := expire.Sweep(m, second)
		if !slices.Equal(once.Entries, twice.Entries) || err != api.OK {
			t.Errorf("Sweep of %v at %d and %d = %v, %d; want %v", l, first, second, twice, err, once)
		}
	}
}

func TestGetOfEveryEntry(t *testing.T) {
	for _, l := range goodStores() {
		for _, e := range l.Entries {
			for _, now := range []int{0, e.Until - 1, e.Until, e.Until + 1, api.MaxTick} {
				if now < 0 || now > api.MaxTick {
					continue
				}
				if now < e.Until {
					wantGet(t, l, e.Key, now, e.Value, true)
				} else {
					wantGet(t, l, e.Key, now, 0, false)
				}
			}
		}
	}
}

func TestGetOfOtherKeys(t *testing.T) {
	for _, l := range allGood() {
		m := slowly(l)
		for _, key := range []int{0, 1, 2, 3, 4, 5, 6, 7, 8, 9, 39, 40, 26213, api.MaxKey - 1, api.MaxKey} {
			if _, ok := m[key]; !ok {
				wantGet(t, l, key, 0, 0, false)
				wantGet(t, l, key, api.MaxTick, 0, false)
			}
		}
	}
}

func TestGetOfAValueOfZero(t *testing.T) {
	wantGet(t, three(), 5, 19, 0, true)
	wantGet(t, three(), 5, 20, 0, false)
	wantGet(t, three(), 6, 19, 0, false)
}

func TestGetOfRandomStores(t *testing.T) {
	source := rand.New(rand.NewSource(3))
	for range 300 {
		l := randomStore(source, source.Intn(api.MaxEntries+1), 12)
		now := source.Intn(26)
		m := slowly(l)
		m.sweep(now)
		for key := range 2*api.MaxEntries + 1 {
			e, found := m[key]
			wantGet(t, l, key, now, e.Value, found)
		}
	}
}

func TestSweepAndGetRefuseBadTicks(t *testing.T) {
	for _, now := range notTicks() {
		for _, l := range allGood() {
			wantSweepError(t, fmt.Sprint(l), l, now, api.ErrRange)
			for _, key := range []int{-1, 0, 3, api.MaxKey, api.MaxKey + 1} {
				wantGetError(t, fmt.Sprint(l), l, key, now, api.ErrRange)
			}
		}
	}
}

func TestGetRefusesBadKeys(t *testing.T) {
	for _, key := range notKeys() {
		for _, l := range allGood() {
			for _, now := range []int{0, 5, 25, api.MaxTick} {
				wantGetError(t, fmt.Sprint(l), l, key, now, api.ErrRange)
			}
		}
	}
}

// Q3.

func TestPutInsertsAnEntry(t *testing.T) {
	a, b, c := entry(3, -7, 30), entry(5, 0, 20), entry(8, 9, 40)
	wantPut(t, three(), 0, 1, 11, entry(0, 1, 21), a, b, c)
	wantPut(t, three(), 4, 1, 11, a, entry(4, 1, 21), b, c)
	wantPut(t, three(), 7, 1, 11, a, b, entry(7, 1, 21), c)
	wantPut(t, three(), 9, 1, 11, a, b, c, entry(9, 1, 21))
	wantPut(t, three(), api.MaxKey, -api.MaxValue, 0, a, b, c, entry(api.MaxKey, -api.MaxValue, 10))
	for _, l := range emptyStores() {
		wantPut(t, l, 0, api.MaxValue, 0, entry(0, api.MaxValue, l.Life))
		wantPut(t, l, api.MaxKey, 0, api.MaxTick, entry(api.MaxKey, 0, api.MaxTick+l.Life))
	}
}

func TestPutReplacesAnEntry(t *testing.T) {
	a, b, c := entry(3, -7, 30), entry(5, 0, 20), entry(8, 9, 40)
	wantPut(t, three(), 3, 1, 11, entry(3, 1, 21), b, c)
	wantPut(t, three(), 5, 1, 11, a, entry(5, 1, 21), c)
	wantPut(t, three(), 8, 1, 11, a, b, entry(8, 1, 21))
	// The same value begins a new lifetime, even one that ends before the old one.
	wantPut(t, three(), 8, 9, 5, a, b, entry(8, 9, 15))
}

func TestPutSweepsBefore(t *testing.T) {
	a, c := entry(3, -7, 30), entry(8, 9, 40)
	wantPut(t, three(), 4, 1, 19, a, entry(4, 1, 29), entry(5, 0, 20), c)
	wantPut(t, three(), 4, 1, 20, a, entry(4, 1, 30), c)
	wantPut(t, three(), 6, 1, 30, entry(6, 1, 40), c)
	wantPut(t, three(), 6, 1, 40, entry(6, 1, 50))
	wantPut(t, three(), 5, 1, 20, a, entry(5, 1, 30), c)
	wantPut(t, three(), 3, 1, 30, entry(3, 1, 40), c)
	wantPut(t, three(), 8, 1, 40, entry(8, 1, 50))
	wantPut(t, three(), 0, 1, api.MaxTick, entry(0, 1, api.MaxTick+10))
}

func TestPutWithEveryLifetime(t *testing.T) {
	for _, life := range []int{1, 2, 3, 1000, api.MaxLife - 1, api.MaxLife} {
		for _, now := range []int{0, 1, 5, 1 << 31, api.MaxTick - 1, api.MaxTick} {
			wantPut(t, store(life), 6, 7, now, entry(6, 7, now+life))
			l, _ := expire.Put(store(life), 6, 7, now)
			if err := expire.Check(l); err != api.OK {
				t.Errorf("Check(%v) = %d, want OK", l, err)
			}
			wantGet(t, l, 6, now, 7, true)
			if now+life <= api.MaxTick {
				wantGet(t, l, 6, now+life-1, 7, true)
				wantGet(t, l, 6, now+life, 0, false)
			}
			wantNext(t, l, now+life)
		}
	}
}

func TestPutUpToTheMostEntries(t *testing.T) {
	l, want := store(1000), []api.Entry(nil)
	for i := range api.MaxEntries {
		// 7 and 41 have no common divisor, so that the keys come in a mixed order, each once.
		key := (7*i + 5) % 41
		wantPut(t, l, key, i, i, slowly(store(1000, append(slices.Clone(want), entry(key, i, 1000+i))...)).list()...)
		l, _ = expire.Put(l, key, i, i)
		want = append(want, entry(key, i, 1000+i))
	}
	for _, key := range []int{41, 100, api.MaxKey} {
		wantPutError(t, "full", l, key, 0, 100, api.ErrFull)
		wantPutError(t, "full", l, key, 0, 999, api.ErrFull)
		// The entry that was put at 0 is expired at 1000.
		m := slowly(l)
		m.sweep(1000)
		m[key] = entry(key, 0, 2000)
		wantPut(t, l, key, 0, 1000, m.list()...)
	}
}

func TestPutReplacesInAFullStore(t *testing.T) {
	full := store(9, same(api.MaxEntries, 50)...)
	for i, e := range full.Entries {
		want := slices.Clone(full.Entries)
		want[i] = entry(e.Key, 3, 49+9)
		wantPut(t, full, e.Key, 3, 49, want...)
		wantPutError(t, "full", full, e.Key+1, 3, 49, api.ErrFull)
		wantPut(t, full, e.Key+1, 3, 50, entry(e.Key+1, 3, 59))
		wantPut(t, full, e.Key, 3, 50, entry(e.Key, 3, 59))
	}
}

func TestPutInAFullStoreOneEntryOfWhichIsExpired(t *testing.T) {
	for i := range api.MaxEntries {
		full := store(9, same(api.MaxEntries, 50)...)
		full.Entries[i].Until = 49
		m := slowly(full)
		m.sweep(49)
		m[51] = entry(51, 3, 58)
		wantPutError(t, "full", full, 51, 3, 48, api.ErrFull)
		wantPut(t, full, 51, 3, 49, m.list()...)
	}
}

func TestPutInRandomStores(t *testing.T) {
	source := rand.New(rand.NewSource(4))
	for range 3000 {
		many := min(source.Intn(2*api.MaxEntries), api.MaxEntries)
		l := randomStore(source, many, 12)
		key, value, now := source.Intn(2*api.MaxEntries+1), source.Intn(19)-9, source.Intn(26)
		m := slowly(l)
		m.sweep(now)
		m[key] = entry(key, value, now+l.Life)
		if len(m) > api.MaxEntries {
			wantPutError(t, fmt.Sprint(l), l, key, value, now, api.ErrFull)
			continue
		}
		wantPut(t, l, key, value, now, m.list()...)
	}
}

func TestManyPutsOneAfterAnother(t *testing.T) {
	source := rand.New(rand.NewSource(5))
	for range 20 {
		l, m, now := store(1+source.Intn(60)), slow{}, 0
		for range 300 {
			now += source.Intn(3)
			key, value := source.Intn(2*api.MaxEntries), source.Intn(100)
			m.sweep(now)
			if _, ok := m[key]; !ok && len(m) == api.MaxEntries {
				wantPutError(t, fmt.Sprint(l), l, key, value, now, api.ErrFull)
				continue
			}
			m[key] = entry(key, value, now+l.Life)
			wantPut(t, l, key, value, now, m.list()...)
			l, _ = expire.Put(l, key, value, now)
			wantGet(t, l, key, now, value, true)
		}
	}
}

func TestPutRefusesBadArguments(t *testing.T) {
	for _, l := range allGood() {
		for _, now := range notTicks() {
			wantPutError(t, fmt.Sprint(l), l, 3, 0, now, api.ErrRange)
			wantPutError(t, fmt.Sprint(l), l, 1000, 0, now, api.ErrRange)
		}
		for _, now := range []int{0, 5, 25, 50, api.MaxTick} {
			for _, key := range notKeys() {
				wantPutError(t, fmt.Sprint(l), l, key, 0, now, api.ErrRange)
			}
			for _, value := range notValues() {
				wantPutError(t, fmt.Sprint(l), l, 3, value, now, api.ErrRange)
				// A full store comes after the value.
				wantPutError(t, fmt.Sprint(l), l, 1000, value, now, api.ErrRange)
			}
		}
		wantPutError(t, fmt.Sprint(l), l, -1, api.MaxValue+1, -1, api.ErrRange)
	}
}

func TestNextOfExamples(t *testing.T) {
	wantNext(t, three(), 20)
	wantNext(t, store(10, entry(4, 7, 15)), 15)
	wantNext(t, store(10, entry(4, 7, 15), entry(5, 7, 16)), 15)
	wantNext(t, store(10, entry(4, 7, 16), entry(5, 7, 15)), 15)
	wantNext(t, store(1, entry(0, 0, 0)), 0)
	wantNext(t, store(1, entry(0, 0, lastUntil)), lastUntil)
	wantNext(t, store(1, entry(0, 0, lastUntil), entry(1, 0, lastUntil-1)), lastUntil-1)
	wantNext(t, store(1, same(api.MaxEntries, 50)...), 50)
}

func TestNextFindsTheFirstWhereverItIs(t *testing.T) {
	for i := range api.MaxEntries {
		l := store(1, same(api.MaxEntries, 50)...)
		l.Entries[i].Until = 49
		wantNext(t, l, 49)
	}
}

func TestNothingExpiresBeforeNext(t *testing.T) {
	source := rand.New(rand.NewSource(6))
	for range 500 {
		l := randomStore(source, 1+source.Intn(api.MaxEntries), 12)
		next, err := expire.Next(l)
		if err != api.OK {
			t.Fatalf("Next(%v): error %d", l, err)
		}
		for now := range 26 {
			_, expired, err := expire.Sweep(l, now)
			if (len(expired) > 0) != (now >= next) || err != api.OK {
				t.Errorf("Next(%v) = %d, but Sweep at %d removes %v, error %d", l, next, now, expired, err)
			}
		}
	}
}

func TestNextOfNoEntries(t *testing.T) {
	for _, l := range emptyStores() {
		wantNextError(t, fmt.Sprint(l), l, api.ErrNone)
	}
}

func TestAllFirstReturnTheErrorOfCheck(t *testing.T) {
	for _, b := range badStores() {
		wantNextError(t, b.name, b.l, b.want)
		for _, now := range append(notTicks(), 0, 5, api.MaxTick) {
			wantSweepError(t, b.name, b.l, now, b.want)
			for _, key := range append(notKeys(), 0, 5, 1000, api.MaxKey) {
				wantGetError(t, b.name, b.l, key, now, b.want)
				for _, value := range []int{0, api.MaxValue, api.MaxValue + 1, math.MinInt} {
					wantPutError(t, b.name, b.l, key, value, now, b.want)
				}
			}
		}
	}
}

// P2.

// spare is a store with spare capacity; all returns everything in its memory.
func spare(l api.Store) (result api.Store, all func() string) {
	whole := append(slices.Clone(l.Entries), entry(-5, -5, -5), entry(-6, -6, -6))
	return api.Store{Life: l.Life, Entries: whole[:len(l.Entries)]}, func() string { return fmt.Sprint(whole[:cap(whole)]) }
}

func TestArgumentsAreNeitherChangedNorShared(t *testing.T) {
	l, all := spare(three())
	before := all()
	check := func(what string, got api.Store, keys []int, err, want api.Errno) {
		t.Helper()
		entries := got.Entries[:cap(got.Entries)]
		for i := range entries {
			entries[i] = entry(-8, -8, -8)
		}
		for i := range keys[:cap(keys)] {
			keys[:cap(keys)][i] = -8
		}
		if err != want || all() != before {
			t.Fatalf("%s: error %d, want %d; the memory of the store is now %s", what, err, want, all())
		}
	}
	check("Check", api.Store{}, nil, expire.Check(l), api.OK)
	_, err := expire.Next(l)
	check("Next", api.Store{}, nil, err, api.OK)
	for _, now := range []int{0, 20, 30, 40, -1} {
		want := api.OK
		if now < 0 {
			want = api.ErrRange
		}
		got, keys, err := expire.Sweep(l, now)
		check(fmt.Sprint("Sweep at ", now), got, keys, err, want)
		for key := range 10 {
			_, _, err := expire.Get(l, key, now)
			check(fmt.Sprintf("Get of %d at %d", key, now), api.Store{}, nil, err, want)
			got, err := expire.Put(l, key, 1, now)
			check(fmt.Sprintf("Put of %d at %d", key, now), got, nil, err, want)
		}
	}
	empty := api.Store{Life: 10, Entries: l.Entries[:0]}
	got, err := expire.Put(empty, 4, 1, 0)
	check("Put in an empty store", got, nil, err, api.OK)
	got, keys, err := expire.Sweep(empty, 0)
	check("Sweep of an empty store", got, keys, err, api.OK)
}
