package greedy_test

import (
	"fmt"
	"math"
	"math/big"
	"math/rand"
	"slices"
	"testing"

	"slopchest/api"
	"slopchest/greedy"
)

// item is an item with its key, size, cost and priority.
func item(key, size, cost, worth int) api.Item {
	return api.Item{Key: key, Size: size, Cost: cost, Worth: worth}
}

// of is the cache with these items.
func of(room, floor int, things ...api.Item) api.Greedy {
	return api.Greedy{Room: room, Floor: floor, Things: things}
}

// small are items of size 1 and cost 0 with the keys 0 to many - 1, all with the same priority.
func small(many, worth int) []api.Item {
	things := make([]api.Item, many)
	for i := range things {
		things[i] = item(i, 1, 0, worth)
	}
	return things
}

// without are the items without those at these indices.
func without(things []api.Item, indices ...int) []api.Item {
	var rest []api.Item
	for i, x := range things {
		if !slices.Contains(indices, i) {
			rest = append(rest, x)
		}
	}
	return rest
}

func equal(a, b api.Greedy) bool {
	return a.Room == b.Room && a.Floor == b.Floor && slices.Equal(a.Things, b.Things)
}

// notFromTo are numbers that are not from least to most.
func notFromTo(least, most int) []int {
	return []int{least - 1, most + 1, -most, 3 * most, math.MinInt, math.MaxInt, 1<<62 + least, math.MinInt + 1<<32}
}

func notKeys() []int   { return append(notFromTo(0, api.MaxKey), 1<<32, 1<<32+1) }
func notSizes() []int  { return append(notFromTo(1, api.MaxSizes), -1, 1<<32, 1<<32+1) }
func notCosts() []int  { return append(notFromTo(0, api.MaxCost), 1<<32, 1<<32+1) }
func notWorths() []int { return notFromTo(0, api.MaxWorth) }

func wantAccess(t *testing.T, h api.Greedy, x api.Item, want api.Greedy, wantHit bool, wantEvicted ...int) {
	t.Helper()
	got, hit, evicted, err := greedy.Access(h, x)
	if !equal(got, want) || hit != wantHit || !slices.Equal(evicted, wantEvicted) || err != api.OK {
		t.Errorf("Access(%v, %v) = %v, %t, %v, %d; want %v, %t, %v, OK", h, x, got, hit, evicted, err, want, wantHit, wantEvicted)
	}
}

func wantAccessError(t *testing.T, what string, h api.Greedy, x api.Item, want api.Errno) {
	t.Helper()
	got, hit, evicted, err := greedy.Access(h, x)
	if !equal(got, api.Greedy{}) || hit || len(evicted) != 0 || err != want {
		t.Errorf("Access of %v, %s: %v, %t, %v, %d; want zero values, %d", x, what, got, hit, evicted, err, want)
	}
}

func wantTotal(t *testing.T, h api.Greedy, wantSize, wantCost int) {
	t.Helper()
	size, cost, err := greedy.Total(h)
	if size != wantSize || cost != wantCost || err != api.OK {
		t.Errorf("Total(%v) = %d, %d, %d; want %d, %d, OK", h, size, cost, err, wantSize, wantCost)
	}
}

func wantVictim(t *testing.T, h api.Greedy, want int) {
	t.Helper()
	if got, err := greedy.Victim(h); got != want || err != api.OK {
		t.Errorf("Victim(%v) = %d, %d; want %d, OK", h, got, err, want)
	}
}

// badCache is a cache that Check refuses.
type badCache struct {
	name string
	h    api.Greedy
	want api.Errno
}

// badCaches are caches with each of the errors of Check, alone and with others.
func badCaches() []badCache {
	return slices.Concat(badNumbers(), badLists(), badItems())
}

// badNumbers are caches whose room or floor is out of range.
func badNumbers() []badCache {
	list := []badCache{{"zero", api.Greedy{}, api.ErrRange}}
	for _, room := range notSizes() {
		list = append(list, badCache{fmt.Sprint("room ", room), of(room, 0), api.ErrRange},
			badCache{fmt.Sprint("an item, room ", room), of(room, 0, item(1, 1, 1, 1)), api.ErrRange},
			badCache{fmt.Sprint("room before many, ", room), of(room, 0, small(api.MaxItems+1, 0)...), api.ErrRange},
			badCache{fmt.Sprint("room before twice, ", room), of(room, 0, item(1, 1, 1, 1), item(1, 1, 1, 1)), api.ErrRange})
	}
	for _, floor := range notWorths() {
		list = append(list, badCache{fmt.Sprint("floor ", floor), of(9, floor), api.ErrRange},
			badCache{fmt.Sprint("an item with the floor ", floor), of(9, floor, item(1, 1, 1, floor)), api.ErrRange},
			badCache{fmt.Sprint("floor before many, ", floor), of(9, floor, small(api.MaxItems+1, api.MaxWorth)...), api.ErrRange},
			badCache{fmt.Sprint("floor before twice, ", floor), of(9, floor, small(1, api.MaxWorth)[0], small(1, api.MaxWorth)[0]), api.ErrRange},
			badCache{fmt.Sprint("floor before full, ", floor), of(1, floor, small(2, api.MaxWorth)...), api.ErrRange})
	}
	return list
}

// badLists are caches with too many items, with a key twice, or with too little room.
func badLists() []badCache {
	one, other, none := item(1, 1, 1, 1), item(2, 1, 1, 1), item(-1, 1, 1, 1)
	return []badCache{
		{"an item too many", of(api.MaxSizes, 0, small(api.MaxItems+1, 0)...), api.ErrMany},
		{"very many items", of(api.MaxSizes, 0, small(1<<16, 0)...), api.ErrMany},
		{"many before zero items", of(9, 0, make([]api.Item, api.MaxItems+1)...), api.ErrMany},
		{"many before a key at the start", of(9, 0, append([]api.Item{none}, small(api.MaxItems, 0)...)...), api.ErrMany},
		{"many before twice", of(9, 0, slices.Repeat([]api.Item{one}, api.MaxItems+1)...), api.ErrMany},
		{"many before full", of(1, 0, small(api.MaxItems+1, 0)...), api.ErrMany},
		{"twice", of(9, 0, one, one), api.ErrTwice},
		{"twice with other numbers", of(9, 0, one, item(1, 2, 3, 4)), api.ErrTwice},
		{"twice, with another between", of(9, 0, one, other, one), api.ErrTwice},
		{"twice at the end", of(9, 0, other, one, one), api.ErrTwice},
		{"0 twice", of(9, 0, item(0, 1, 1, 1), one, item(0, 1, 1, 1)), api.ErrTwice},
		{"the greatest key twice", of(9, 0, item(api.MaxKey, 1, 1, 1), item(api.MaxKey, 1, 1, 1)), api.ErrTwice},
		{"twice before full", of(1, 0, one, one), api.ErrTwice},
		{"twice before full at the start", of(3, 0, item(1, 4, 1, 1), other, other), api.ErrTwice},
		{"range before twice", of(9, 0, none, none), api.ErrRange},
		{"the size before twice", of(9, 0, one, item(1, 0, 1, 1)), api.ErrRange},
		{"the cost before twice", of(9, 0, one, item(1, 1, -1, 1)), api.ErrRange},
		{"the priority before twice", of(9, 1, one, item(1, 1, 1, 0)), api.ErrRange},
		// Of several items the first one counts.
		{"twice, then range", of(9, 0, one, one, none), api.ErrTwice},
		{"twice, then a priority", of(9, 1, one, one, item(2, 1, 1, 0)), api.ErrTwice},
		{"range, then twice", of(9, 0, one, none, one), api.ErrRange},
		{"range, then twice behind it", of(9, 0, none, one, one), api.ErrRange},
		{"full", of(1, 0, one, other), api.ErrFull},
		{"full with one item", of(5, 0, item(1, 6, 1, 1)), api.ErrFull},
		{"full with the greatest item", of(api.MaxSizes-1, 0, item(1, api.MaxSizes, 1, 1)), api.ErrFull},
		{"full with the greatest room", of(api.MaxSizes, 0, item(1, api.MaxSizes, 1, 1), other), api.ErrFull},
		{"full with two halves", of(api.MaxSizes, 0, item(1, api.MaxSizes/2, 1, 1), item(2, api.MaxSizes/2+1, 1, 1)), api.ErrFull},
		{"full with many items", of(api.MaxItems-1, 0, small(api.MaxItems, 0)...), api.ErrFull},
		{"range before full", of(1, 0, one, item(2, 1, 1, -1)), api.ErrRange},
		{"range behind a size that is too great", of(5, 0, item(1, 6, 1, 1), none), api.ErrRange},
	}
}

// badItems are caches of which one item has a number that is out of range.
func badItems() []badCache {
	var list []badCache
	add := func(name string, n, at, floor int, change func(*api.Item)) {
		things := []api.Item{item(5, 1, 1, floor+5), item(6, 2, 2, floor+6), item(7, 3, 3, floor+7), item(8, 4, 4, floor+8)}
		change(&things[at])
		list = append(list, badCache{fmt.Sprintf("%s %d at %d", name, n, at), of(10, floor, things...), api.ErrRange})
	}
	for at := range 4 {
		for _, n := range notKeys() {
			add("key", n, at, 0, func(x *api.Item) { x.Key = n })
		}
		for _, n := range notSizes() {
			add("size", n, at, 0, func(x *api.Item) { x.Size = n })
		}
		for _, n := range notCosts() {
			add("cost", n, at, 0, func(x *api.Item) { x.Cost = n })
		}
		for _, n := range notWorths() {
			add("priority", n, at, 0, func(x *api.Item) { x.Worth = n })
			add("priority", n, at, 100, func(x *api.Item) { x.Worth = n })
		}
		for _, n := range []int{0, 1, 98, 99} {
			add("priority below the floor", n, at, 100, func(x *api.Item) { x.Worth = n })
		}
	}
	return list
}

// goodCaches are caches that Check accepts.
func goodCaches() []api.Greedy {
	list := []api.Greedy{
		of(1, 0), of(1, 0, []api.Item{}...), of(api.MaxSizes, api.MaxWorth), of(1, 0, item(0, 1, 0, 0)),
		of(1, 5, item(0, 1, 0, 5)), of(10, 2048, item(2, 6, 60, 10240), item(3, 3, 1, 2389)),
		of(9, 1, item(4, 4, 9, 7), item(1, 5, 1, 7)),
		of(api.MaxSizes, api.MaxWorth, item(api.MaxKey, api.MaxSizes, api.MaxCost, api.MaxWorth)),
		of(api.MaxSizes, 0, item(1, api.MaxSizes/2, 0, 0), item(0, api.MaxSizes/2, api.MaxCost, api.MaxWorth)),
	}
	for many := 1; many <= api.MaxItems; many++ {
		list = append(list, of(many, 0, small(many, 0)...), of(api.MaxSizes, 3, small(many, 3)...), of(many+1, 3, small(many, api.MaxWorth)...))
	}
	return list
}

// goodItems are items that can be accessed, with any priority.
func goodItems() []api.Item {
	return []api.Item{item(0, 1, 0, 0), item(1, 1, 1, -1), item(api.MaxKey, api.MaxSizes, api.MaxCost, math.MinInt), item(3, 4, 5, math.MaxInt)}
}

// notItems are items that cannot be accessed.
func notItems() []api.Item {
	list := []api.Item{{}, {Key: 1, Cost: 1}, {Key: -1, Cost: -1}}
	for _, n := range notKeys() {
		list = append(list, item(n, 1, 1, 1), item(n, 0, -1, 0))
	}
	for _, n := range notSizes() {
		list = append(list, item(1, n, 1, 1), item(0, n, 0, 0))
	}
	for _, n := range notCosts() {
		list = append(list, item(1, 1, n, 1), item(0, 1, n, 0))
	}
	return list
}

// randomCache returns a valid cache with keys below kinds, and priorities many of which are the same.
func randomCache(source *rand.Rand, kinds int) api.Greedy {
	h := of(1+source.Intn(100), source.Intn(5000))
	if source.Intn(5) == 0 {
		h.Floor = api.MaxWorth - source.Intn(20000)
	}
	free := h.Room
	for _, key := range source.Perm(kinds)[:source.Intn(min(kinds, api.MaxItems)+1)] {
		x := item(key, 1+source.Intn(1+h.Room/4), source.Intn(20), min(h.Floor+1024*source.Intn(4), api.MaxWorth))
		if x.Size <= free {
			h.Things = append(h.Things, x)
			free -= x.Size
		}
	}
	return h
}

// randomItem returns an item with a key below kinds for a cache with such a room.
func randomItem(source *rand.Rand, kinds, room int) api.Item {
	size := 1 + source.Intn(1+room/3)
	if source.Intn(6) == 0 {
		size = 1 + source.Intn(room+3)
	}
	return item(source.Intn(kinds), size, source.Intn(20), source.Int()-source.Int())
}

// slowWorth computes the initial priority with numbers of any size.
func slowWorth(floor int, x api.Item) int {
	worth := new(big.Rat).SetFrac(big.NewInt(int64(x.Cost)), big.NewInt(int64(x.Size)))
	worth.Mul(worth, big.NewRat(1024, 1)).Add(worth, big.NewRat(int64(floor), 1))
	if worth.Cmp(big.NewRat(api.MaxWorth, 1)) >= 0 {
		return api.MaxWorth
	}
	return int(new(big.Int).Quo(worth.Num(), worth.Denom()).Int64())
}

// slowAccess follows the document. All items by their priorities, and of the
// same ones by their indices, are the order in which they are evicted, so that
// a number of them goes: the least one with which there is room.
func slowAccess(h api.Greedy, x api.Item) (next api.Greedy, hit bool, evicted []int) {
	next = of(h.Room, h.Floor, slices.Clone(h.Things)...)
	for i, cached := range h.Things {
		if cached.Key == x.Key {
			next.Things[i].Worth = slowWorth(h.Floor, cached)
			return next, true, nil
		}
	}
	if x.Size > h.Room {
		return next, false, nil
	}
	order := slices.Clone(h.Things)
	slices.SortStableFunc(order, func(a, b api.Item) int { return a.Worth - b.Worth })
	for gone := 0; ; gone++ {
		size := x.Size
		for _, kept := range order[gone:] {
			size += kept.Size
		}
		if size > h.Room || len(order)-gone >= api.MaxItems {
			continue
		}
		for _, v := range order[:gone] {
			evicted = append(evicted, v.Key)
			next.Floor = v.Worth
		}
		break
	}
	next.Things = slices.DeleteFunc(next.Things, func(v api.Item) bool { return slices.Contains(evicted, v.Key) })
	x.Worth = slowWorth(next.Floor, x)
	next.Things = append(next.Things, x)
	return next, false, evicted
}

// N1.

func TestCheckRefuses(t *testing.T) {
	for _, b := range badCaches() {
		if got := greedy.Check(b.h); got != b.want {
			t.Errorf("Check, %s: %d, want %d", b.name, got, b.want)
		}
	}
}

func TestCheckAccepts(t *testing.T) {
	for _, h := range goodCaches() {
		if got := greedy.Check(h); got != api.OK {
			t.Errorf("Check(%v) = %d, want OK", h, got)
		}
	}
}

func TestCheckOfEveryRoom(t *testing.T) {
	for room := 1; room <= 100; room++ {
		for size := 1; size <= 110; size++ {
			want := api.OK
			if size > room {
				want = api.ErrFull
			}
			h := of(room, 0, item(7, (size+1)/2, 1, 0))
			if size > 1 {
				h.Things = append(h.Things, item(5, size/2, 1, 0))
			}
			if got := greedy.Check(h); got != want {
				t.Errorf("Check of size %d in room %d: %d, want %d", size, room, got, want)
			}
		}
	}
}

func TestCheckFindsAKeyTwiceAtAnyTwoIndices(t *testing.T) {
	for second := range api.MaxItems {
		for first := range second {
			things := small(api.MaxItems, 2)
			things[second] = item(first, 2, 3, 4)
			if got := greedy.Check(of(api.MaxSizes, 0, things...)); got != api.ErrTwice {
				t.Errorf("Check, the same key at %d and %d: %d, want %d", first, second, got, api.ErrTwice)
			}
		}
	}
}

func TestCheckFindsAPriorityBelowTheFloorAtAnyIndex(t *testing.T) {
	for at := range api.MaxItems {
		for _, floor := range []int{1, 2, 1024, api.MaxWorth} {
			things := small(api.MaxItems, floor)
			h := of(api.MaxItems, floor, things...)
			if got := greedy.Check(h); got != api.OK {
				t.Errorf("Check, all with the floor %d: %d, want OK", floor, got)
			}
			things[at].Worth--
			if got := greedy.Check(h); got != api.ErrRange {
				t.Errorf("Check, below the floor %d at %d: %d, want %d", floor, at, got, api.ErrRange)
			}
		}
	}
}

func TestTotal(t *testing.T) {
	wantTotal(t, of(9, 0), 0, 0)
	wantTotal(t, of(9, 7, []api.Item{}...), 0, 0)
	wantTotal(t, of(9, 0, item(1, 4, 8, 0), item(2, 5, 1, 0)), 9, 9)
	wantTotal(t, of(10, 3, item(1, 4, 0, 9), item(2, 5, 7, 3)), 9, 7)
	wantTotal(t, of(9, 0, item(5, 1, 0, 11)), 1, 0)
	wantTotal(t, of(api.MaxSizes, 0, item(0, api.MaxSizes, api.MaxCost, api.MaxWorth)), api.MaxSizes, api.MaxCost)
	for many := range api.MaxItems + 1 {
		things, size, cost := small(many, 5), 0, 0
		for i := range things {
			things[i].Size, things[i].Cost = 1000+i, api.MaxCost-2*i
			size += 1000 + i
			cost += api.MaxCost - 2*i
		}
		wantTotal(t, of(api.MaxSizes, 0, things...), size, cost)
	}
}

func TestTotalReturnsTheErrorOfCheck(t *testing.T) {
	for _, b := range badCaches() {
		if size, cost, err := greedy.Total(b.h); size != 0 || cost != 0 || err != b.want {
			t.Errorf("Total, %s: %d, %d, %d; want 0, 0, %d", b.name, size, cost, err, b.want)
		}
	}
}

// N2.

func TestVictimHasTheSmallestPriority(t *testing.T) {
	wantVictim(t, of(1, 0, item(0, 1, 0, 5)), 0)
	wantVictim(t, of(9, 0, item(api.MaxKey, 1, 0, api.MaxWorth)), api.MaxKey)
	wantVictim(t, of(9, 0, item(1, 1, 9, 8), item(2, 3, 7, 7)), 2)
	wantVictim(t, of(9, 0, item(1, 3, 7, 7), item(2, 1, 9, 8)), 1)
	// Neither the key nor the size nor the cost matters.
	wantVictim(t, of(9, 0, item(1, 1, 0, 8), item(5, 4, 9, 7), item(2, 2, 1, 9)), 5)
	wantVictim(t, of(9, 0, item(1, 4, 0, api.MaxWorth), item(5, 1, 9, api.MaxWorth-1)), 5)
	for many := 1; many <= api.MaxItems; many++ {
		for at := range many {
			things := small(many, 1<<40)
			things[at].Worth--
			wantVictim(t, of(api.MaxItems, 3, things...), at)
		}
	}
}

func TestVictimOfSeveralIsTheFirstOne(t *testing.T) {
	wantVictim(t, of(9, 0, item(1, 4, 0, 7), item(2, 2, 0, 5), item(3, 2, 0, 5)), 2)
	wantVictim(t, of(9, 0, item(3, 2, 0, 5), item(1, 4, 0, 7), item(2, 2, 0, 5)), 3)
	for many := 1; many <= api.MaxItems; many++ {
		wantVictim(t, of(many, 0, small(many, 0)...), 0)
		for at := range many {
			things := small(many, 8)
			things[at].Worth, things[many-1].Worth = 7, 7
			wantVictim(t, of(many, 7, things...), at)
		}
	}
}

func TestVictimOfNoItems(t *testing.T) {
	for _, h := range []api.Greedy{of(1, 0), of(9, 7, []api.Item{}...), of(api.MaxSizes, api.MaxWorth)} {
		if got, err := greedy.Victim(h); got != 0 || err != api.ErrNone {
			t.Errorf("Victim(%v) = %d, %d; want 0, %d", h, got, err, api.ErrNone)
		}
	}
}

func TestVictimFirstReturnsTheErrorOfCheck(t *testing.T) {
	for _, b := range badCaches() {
		if got, err := greedy.Victim(b.h); got != 0 || err != b.want {
			t.Errorf("Victim, %s: %d, %d; want 0, %d", b.name, got, err, b.want)
		}
	}
}

// N3.

func TestAccessOfTheExample(t *testing.T) {
	wantAccess(t, of(4, 0, item(1, 4, 8, 2048)), item(3, 3, 1, 0), of(4, 2048, item(3, 3, 1, 2389)), false, 1)
	wantAccess(t, of(10, 0, item(1, 4, 8, 2048), item(2, 6, 60, 10240)), item(3, 3, 1, 0), of(10, 2048, item(2, 6, 60, 10240), item(3, 3, 1, 2389)), false, 1)
}

func TestAccessGivesTheInitialPriority(t *testing.T) {
	for _, c := range []struct{ floor, size, cost, want int }{
		{0, 1, 0, 0}, {7, 1, 0, 7}, {0, 1, 1, 1024}, {7, 1, 1, 1031}, {0, 4, 8, 2048}, {0, 2, 1, 512},
		// It is multiplied before it is divided, and rounded down only then.
		{0, 3, 1, 341}, {0, 3, 2, 682}, {0, 3, 3, 1024}, {0, 3, 5, 1706}, {2048, 3, 1, 2389}, {1, 1000, 999, 1023},
		{0, 1024, 1, 1}, {0, 1025, 1, 0}, {5, 1025, 1, 5}, {5, 1024, 1, 6}, {0, 2047, 2, 1}, {0, 2048, 2, 1}, {0, 2049, 2, 0},
		{0, api.MaxSizes, 1, 0}, {0, api.MaxSizes, 1023, 0}, {0, api.MaxSizes, 1024, 1}, {0, api.MaxSizes, api.MaxCost, 1024},
		{0, 1, api.MaxCost, 1 << 30}, {1 << 49, 1, api.MaxCost, 1<<49 + 1<<30}, {0, 7, api.MaxCost, 153391689},
		// It is not greater than MaxWorth.
		{api.MaxWorth, 1, 0, api.MaxWorth}, {api.MaxWorth, 1, 1, api.MaxWorth}, {api.MaxWorth, 1, api.MaxCost, api.MaxWorth},
		{api.MaxWorth - 1, 1, 0, api.MaxWorth - 1}, {api.MaxWorth - 1, 1024, 1, api.MaxWorth}, {api.MaxWorth - 1, 1024, 2, api.MaxWorth},
		{api.MaxWorth - 1025, 1, 1, api.MaxWorth - 1}, {api.MaxWorth - 1024, 1, 1, api.MaxWorth}, {api.MaxWorth - 1023, 1, 1, api.MaxWorth},
		{api.MaxWorth - 1<<30, 1, api.MaxCost, api.MaxWorth}, {api.MaxWorth - 1<<30 - 1, 1, api.MaxCost, api.MaxWorth - 1},
	} {
		wantAccess(t, of(api.MaxSizes, c.floor), item(9, c.size, c.cost, 0), of(api.MaxSizes, c.floor, item(9, c.size, c.cost, c.want)), false)
		cached := of(api.MaxSizes, c.floor, item(9, c.size, c.cost, api.MaxWorth))
		wantAccess(t, cached, item(9, 1, 1, 0), of(api.MaxSizes, c.floor, item(9, c.size, c.cost, c.want)), true)
		cached = of(api.MaxSizes, c.floor, item(9, c.size, c.cost, c.floor))
		wantAccess(t, cached, item(9, 1, 1, 0), of(api.MaxSizes, c.floor, item(9, c.size, c.cost, c.want)), true)
	}
}

func TestAccessOfACachedItemChangesOnlyItsPriority(t *testing.T) {
	h := of(10, 100, item(7, 2, 1, 100), item(0, 3, 9, 100), item(9, 5, 0, 5000))
	wantAccess(t, h, item(7, 2, 1, 0), of(10, 100, item(7, 2, 1, 612), h.Things[1], h.Things[2]), true)
	wantAccess(t, h, item(0, 3, 9, 0), of(10, 100, h.Things[0], item(0, 3, 9, 3172), h.Things[2]), true)
	// A priority may also become smaller.
	wantAccess(t, h, item(9, 5, 0, 0), of(10, 100, h.Things[0], h.Things[1], item(9, 5, 0, 100)), true)
}

func TestAccessOfACachedItemTakesTheCachedNumbers(t *testing.T) {
	h := of(10, 100, item(7, 2, 1, 100), item(0, 3, 9, 100), item(9, 5, 0, 5000))
	want := of(10, 100, item(7, 2, 1, 612), h.Things[1], h.Things[2])
	for _, x := range []api.Item{item(7, 1, 1, 0), item(7, 2, 9, 0), item(7, 10, api.MaxCost, 7), item(7, 11, 0, 0), item(7, api.MaxSizes, 1, 0)} {
		wantAccess(t, h, x, want, true)
	}
	// There is no room for an item that is cached twice, and it needs none.
	full := of(api.MaxItems, 5, small(api.MaxItems, 9)...)
	for at := range api.MaxItems {
		want := slices.Clone(full.Things)
		want[at].Worth = 5
		wantAccess(t, full, item(at, api.MaxItems, 1, 0), of(api.MaxItems, 5, want...), true)
	}
}

func TestAccessIgnoresThePriorityOfItsItem(t *testing.T) {
	h := of(10, 100, item(7, 2, 1, 100))
	for _, worth := range append(notWorths(), 0, 1, 99, 100, api.MaxWorth) {
		wantAccess(t, h, item(7, 2, 1, worth), of(10, 100, item(7, 2, 1, 612)), true)
		wantAccess(t, h, item(8, 2, 3, worth), of(10, 100, h.Things[0], item(8, 2, 3, 1636)), false)
		wantAccess(t, h, item(8, 9, 9, worth), of(10, 100, item(8, 9, 9, 1124)), false, 7)
		wantAccess(t, h, item(8, 11, 3, worth), h, false)
	}
}

func TestAccessOfAnItemGreaterThanTheRoomChangesNothing(t *testing.T) {
	for _, h := range goodCaches() {
		for _, size := range []int{h.Room + 1, h.Room + 2, api.MaxSizes} {
			if size > h.Room && size <= api.MaxSizes {
				wantAccess(t, h, item(1000, size, 3, 0), h, false)
			}
		}
	}
}

func TestAccessAppendsWhileThereIsRoom(t *testing.T) {
	wantAccess(t, of(1, 0), item(0, 1, 0, 0), of(1, 0, item(0, 1, 0, 0)), false)
	wantAccess(t, of(5, 3, []api.Item{}...), item(api.MaxKey, 5, 5, 0), of(5, 3, item(api.MaxKey, 5, 5, 1027)), false)
	wantAccess(t, of(9, 0, item(5, 4, 0, 9)), item(4, 5, 0, 0), of(9, 0, item(5, 4, 0, 9), item(4, 5, 0, 0)), false)
	wantAccess(t, of(api.MaxSizes, 0, item(5, 1, 0, 9)), item(4, api.MaxSizes-1, 0, 0), of(api.MaxSizes, 0, item(5, 1, 0, 9), item(4, api.MaxSizes-1, 0, 0)), false)
	for many := range api.MaxItems {
		for _, room := range []int{many + 1, many + 2, api.MaxSizes} {
			things := small(many, 6)
			wantAccess(t, of(room, 6, things...), item(1000, 1, 2, 0), of(room, 6, append(things, item(1000, 1, 2, 2054))...), false)
		}
	}
}

func TestAccessEvictsUntilThereIsRoom(t *testing.T) {
	things := []api.Item{item(1, 3, 0, 40), item(2, 1, 0, 20), item(3, 2, 0, 30), item(4, 4, 0, 10)}
	h := of(10, 5, things...)
	for _, c := range []struct {
		size, floor int
		kept        []api.Item
		evicted     []int
	}{
		{1, 10, without(things, 3), []int{4}},
		{4, 10, without(things, 3), []int{4}},
		{5, 20, without(things, 1, 3), []int{4, 2}},
		{6, 30, without(things, 1, 2, 3), []int{4, 2, 3}},
		{7, 30, without(things, 1, 2, 3), []int{4, 2, 3}},
		{8, 40, nil, []int{4, 2, 3, 1}},
		{10, 40, nil, []int{4, 2, 3, 1}},
	} {
		wantAccess(t, h, item(9, c.size, 0, 0), of(10, c.floor, append(c.kept, item(9, c.size, 0, c.floor))...), false, c.evicted...)
	}
	// With room for one more, the same items fit with one less.
	h.Room = 11
	wantAccess(t, h, item(9, 1, 0, 0), of(11, 5, append(slices.Clone(things), item(9, 1, 0, 5))...), false)
	wantAccess(t, h, item(9, 2, 0, 0), of(11, 10, append(without(things, 3), item(9, 2, 0, 10))...), false, 4)
	wantAccess(t, h, item(9, 6, 0, 0), of(11, 20, append(without(things, 1, 3), item(9, 6, 0, 20))...), false, 4, 2)
}

func TestAccessOfSeveralEvictsTheFirstOne(t *testing.T) {
	things := small(6, 8)
	wantAccess(t, of(6, 8, things...), item(9, 1, 0, 0), of(6, 8, append(without(things, 0), item(9, 1, 0, 8))...), false, 0)
	wantAccess(t, of(6, 8, things...), item(9, 4, 0, 0), of(6, 8, append(without(things, 0, 1, 2, 3), item(9, 4, 0, 8))...), false, 0, 1, 2, 3)
	things[2].Worth, things[4].Worth = 7, 7
	wantAccess(t, of(6, 7, things...), item(9, 3, 0, 0), of(6, 8, append(without(things, 0, 2, 4), item(9, 3, 0, 8))...), false, 2, 4, 0)
}

func TestAccessEvictsAnItemIfThereAreMaxItems(t *testing.T) {
	for _, room := range []int{api.MaxItems, api.MaxItems + 1, api.MaxSizes} {
		for at := range api.MaxItems {
			things := small(api.MaxItems, 8)
			things[at].Worth = 7
			h := of(room, 2, things...)
			wantAccess(t, h, item(1000, 1, 1, 0), of(room, 7, append(without(things, at), item(1000, 1, 1, 1031))...), false, at)
		}
	}
}

func TestAccessRaisesTheFloorOnlyWithEvictions(t *testing.T) {
	h := of(10, 100, item(1, 5, 0, 300), item(2, 4, 0, 200))
	wantAccess(t, h, item(3, 1, 0, 0), of(10, 100, h.Things[0], h.Things[1], item(3, 1, 0, 100)), false)
	wantAccess(t, h, item(3, 2, 0, 0), of(10, 200, h.Things[0], item(3, 2, 0, 200)), false, 2)
	wantAccess(t, h, item(3, 6, 0, 0), of(10, 300, item(3, 6, 0, 300)), false, 2, 1)
	wantAccess(t, h, item(1, 5, 0, 0), of(10, 100, item(1, 5, 0, 100), h.Things[1]), true)
	top := of(4, 0, item(1, 4, 0, api.MaxWorth))
	wantAccess(t, top, item(3, 1, 1, 0), of(4, api.MaxWorth, item(3, 1, 1, api.MaxWorth)), false, 1)
}

func TestAccessRefusesBadItems(t *testing.T) {
	for _, h := range goodCaches() {
		for _, x := range notItems() {
			wantAccessError(t, fmt.Sprint(h), h, x, api.ErrRange)
		}
	}
}

func TestAccessFirstReturnsTheErrorOfCheck(t *testing.T) {
	for _, b := range badCaches() {
		for _, x := range append(notItems(), goodItems()...) {
			wantAccessError(t, b.name, b.h, x, b.want)
		}
	}
}

func TestAccessFollowsTheDocument(t *testing.T) {
	source := rand.New(rand.NewSource(1))
	for range 1000 {
		kinds := 1 + source.Intn(2*api.MaxItems)
		h := randomCache(source, kinds)
		for range 60 {
			x := randomItem(source, kinds, h.Room)
			next, hit, evicted := slowAccess(h, x)
			wantAccess(t, h, x, next, hit, evicted...)
			if err := greedy.Check(next); err != api.OK {
				t.Fatalf("Check of the result of Access = %d, want OK", err)
			}
			if next.Floor < h.Floor {
				t.Fatalf("the floor was %d, and is now %d", h.Floor, next.Floor)
			}
			h = next
		}
	}
}

func TestAccessEvictsWhatVictimReturns(t *testing.T) {
	source := rand.New(rand.NewSource(2))
	for range 2000 {
		h := randomCache(source, 2*api.MaxItems)
		x := item(1000, 1+source.Intn(h.Room), source.Intn(20), 0)
		_, _, evicted, err := greedy.Access(h, x)
		if err != api.OK {
			t.Fatalf("Access(%v, %v): error %d", h, x, err)
		}
		for _, key := range evicted {
			wantVictim(t, h, key)
			size, _, _ := greedy.Total(h)
			if size+x.Size <= h.Room && len(h.Things) < api.MaxItems {
				t.Errorf("Access of %v evicts %d from %v, which has room for it", x, key, h)
			}
			h.Things = slices.DeleteFunc(h.Things, func(v api.Item) bool { return v.Key == key })
		}
	}
}

func TestAccessOfTheGreatestItems(t *testing.T) {
	// Each item is as large as the room, so that each one drives out the one before, until priorities rise no more.
	h := of(api.MaxSizes, api.MaxWorth-10*1024)
	for key := range 20 {
		floor := min(api.MaxWorth-10*1024+1024*key, api.MaxWorth)
		next := of(api.MaxSizes, floor, item(key, api.MaxSizes, api.MaxCost, min(floor+1024, api.MaxWorth)))
		var evicted []int
		if key > 0 {
			evicted = []int{key - 1}
		}
		wantAccess(t, h, item(key, api.MaxSizes, api.MaxCost, 0), next, false, evicted...)
		h = next
	}
}

// P2.

// spareItems are items with spare capacity; all returns everything in their memory.
func spareItems(things ...api.Item) (result []api.Item, all func() string) {
	whole := append(slices.Clone(things), item(-5, -5, -5, -5), item(-6, -6, -6, -6), item(-7, -7, -7, -7))
	return whole[:len(things)], func() string { return fmt.Sprint(whole[:cap(whole)]) }
}

// overwrite fills the whole memory of a list.
func overwrite(things []api.Item) {
	things = things[:cap(things)]
	for i := range things {
		things[i] = item(-8, -8, -8, -8)
	}
}

func TestArgumentsAreNeitherChangedNorShared(t *testing.T) {
	for _, room := range []int{9, 10, 30} {
		things, all := spareItems(item(1, 4, 4, 20), item(2, 2, 1, 10), item(3, 3, 2, 30))
		h, before := of(room, 5, things...), all()
		check := func(what string, got api.Greedy, err, want api.Errno) {
			t.Helper()
			overwrite(got.Things)
			if err != want || all() != before {
				t.Fatalf("%s: error %d, want %d; the items are now %s", what, err, want, all())
			}
		}
		check("Check", api.Greedy{}, greedy.Check(h), api.OK)
		_, err := greedy.Victim(h)
		check("Victim", api.Greedy{}, err, api.OK)
		_, _, err = greedy.Total(h)
		check("Total", api.Greedy{}, err, api.OK)
		for key := range 5 {
			for size := 1; size <= room+1; size++ {
				got, _, _, err := greedy.Access(h, item(key, size, 1, 0))
				check(fmt.Sprintf("Access of key %d, size %d", key, size), got, err, api.OK)
			}
		}
		got, _, _, err := greedy.Access(h, item(-1, 1, 1, 0))
		check("Access of no key", got, err, api.ErrRange)
	}
}
