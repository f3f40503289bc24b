package ring_test

import (
	"fmt"
	"math"
	"math/rand"
	"slices"
	"testing"

	"slopchest/api"
	"slopchest/ring"
)

const (
	lastPlace = api.MaxPlace - 1
	lastShard = api.MaxShards - 1
)

// point is a point at a place, of a shard.
func point(at, shard int) api.Point { return api.Point{At: at, Shard: shard} }

// two are the points of the example.
func two() []api.Point { return []api.Point{point(10, 1), point(20, 2)} }

// row are many points from a place on, each some places after the one before, of the shards in turn.
func row(many, from, step int) []api.Point {
	list := make([]api.Point, many)
	for i := range list {
		list[i] = point(from+i*step, i%api.MaxShards)
	}
	return list
}

// goodLists are lists with at least one point that Check accepts.
func goodLists() [][]api.Point {
	return [][]api.Point{
		two(), {point(0, 0)}, {point(lastPlace, lastShard)}, {point(0, 3), point(lastPlace, 4)}, {point(0, 4), point(1, 3), point(2, 4)},
		{point(lastPlace-1, 0), point(lastPlace, 0)}, {point(100, 7)}, {point(100, 7), point(40000, 7), point(40001, 7)},
		{point(100, 19), point(200, 5), point(300, 0), point(32767, 5), point(32768, 19)},
		row(api.MaxPoints, 0, 1), row(api.MaxPoints, api.MaxPlace-api.MaxPoints, 1), row(api.MaxPoints, 3, 1092), row(api.MaxPoints, 0, 1110), row(api.MaxShards, 5, 100),
	}
}

// notShards are numbers that are not those of shards.
func notShards() []int {
	return []int{-1, api.MaxShards, api.MaxShards + 1, -lastShard, math.MinInt, math.MaxInt, 1 << 32, 1<<32 + 1}
}

// notPlaces are numbers that are not places.
func notPlaces() []int {
	return []int{-1, api.MaxPlace, api.MaxPlace + 1, -lastPlace, math.MinInt, math.MaxInt, 1 << 32, 1<<32 + 1}
}

// bad is a list that Check refuses, and the error with which it does so.
type bad struct {
	name string
	l    []api.Point
	want api.Errno
}

// badLists are lists that Check refuses.
func badLists() []bad {
	list := []bad{
		{"too many", row(api.MaxPoints+1, 0, 1), api.ErrMany},
		{"far too many", row(1000, 0, 1), api.ErrMany},
		{"too many, which are zero values", make([]api.Point, api.MaxPoints+1), api.ErrMany},
		{"too many, of which the first has no place", append([]api.Point{point(-1, 0)}, row(api.MaxPoints, 0, 1)...), api.ErrMany},
		{"too many, of which the first is of no shard", append([]api.Point{point(0, -1)}, row(api.MaxPoints, 1, 1)...), api.ErrMany},
		{"MaxPoints zero values", make([]api.Point, api.MaxPoints), api.ErrState},
		{"same place", []api.Point{point(5, 0), point(5, 1)}, api.ErrState},
		{"same point", []api.Point{point(5, 1), point(5, 1)}, api.ErrState},
		{"first place twice", []api.Point{point(0, 0), point(0, 1)}, api.ErrState},
		{"last place twice", []api.Point{point(lastPlace, 0), point(lastPlace, 1)}, api.ErrState},
		{"falling", []api.Point{point(6, 0), point(5, 1)}, api.ErrState},
		{"falling from the last place to the first", []api.Point{point(lastPlace, 0), point(0, 1)}, api.ErrState},
		{"falling at the end, but greater than the first", []api.Point{point(4, 0), point(6, 0), point(5, 0)}, api.ErrState},
		{"falling in the middle", []api.Point{point(4, 0), point(6, 0), point(5, 0), point(7, 0)}, api.ErrState},
		{"shard before order", []api.Point{point(5, 0), point(5, api.MaxShards)}, api.ErrRange},
		{"negative place before order", []api.Point{point(5, 0), point(-1, 0)}, api.ErrRange},
		{"order of the second before shard of the third", []api.Point{point(5, 0), point(5, 0), point(6, -1)}, api.ErrState},
		{"order of the second before place of the third", []api.Point{point(5, 0), point(4, 0), point(api.MaxPlace, 0)}, api.ErrState},
		{"shard of the first before order of the second", []api.Point{point(5, -1), point(5, 0)}, api.ErrRange},
		{"place of the second before order of the third", []api.Point{point(5, 0), point(api.MaxPlace, 0), point(5, 0)}, api.ErrRange},
	}
	for _, n := range notShards() {
		list = append(list, bad{fmt.Sprint("shard ", n), []api.Point{point(0, n)}, api.ErrRange})
		list = append(list, bad{fmt.Sprint("last shard ", n), append(row(api.MaxPoints-1, 0, 1), point(1000, n)), api.ErrRange})
	}
	for _, n := range notPlaces() {
		list = append(list, bad{fmt.Sprint("place ", n), []api.Point{point(n, 0)}, api.ErrRange})
		list = append(list, bad{fmt.Sprint("last place ", n), append(row(api.MaxPoints-1, 0, 1), point(n, 0)), api.ErrRange})
	}
	return list
}

// slowOwner walks around the ring until it comes to a point.
func slowOwner(l []api.Point, at int) int {
	for {
		for _, p := range l {
			if p.At == at {
				return p.Shard
			}
		}
		at = (at + 1) % api.MaxPlace
	}
}

// slowOwners are the owners of all places, from the last one to the first.
func slowOwners(l []api.Point) []int {
	stands := map[int]int{}
	for _, p := range l {
		stands[p.At] = p.Shard
	}
	owners := make([]int, api.MaxPlace)
	owner := slowOwner(l, 0)
	for at := lastPlace; at >= 0; at-- {
		if shard, ok := stands[at]; ok {
			owner = shard
		}
		owners[at] = owner
	}
	return owners
}

// slowShares counts how often each shard is an owner.
func slowShares(l []api.Point, shards int) []int {
	list := make([]int, shards)
	for _, owner := range slowOwners(l) {
		if owner < shards {
			list[owner]++
		}
	}
	return list
}

// slowAdd looks at all places of the ring for points, old and new.
func slowAdd(l []api.Point, shard int, places []int) []api.Point {
	var list []api.Point
	for at := range api.MaxPlace {
		if slices.Contains(places, at) {
			list = append(list, point(at, shard))
		}
		for len(l) > 0 && l[0].At == at {
			list = append(list, l[0])
			l = l[1:]
		}
	}
	return list
}

// without are the points of all other shards.
func without(l []api.Point, shard int) []api.Point {
	return slices.DeleteFunc(slices.Clone(l), func(p api.Point) bool { return p.Shard == shard })
}

// randomPlaces are many different places, often near each other.
func randomPlaces(source *rand.Rand, many int) []int {
	room := []int{api.MaxPoints * 2, api.MaxPlace}[source.Intn(2)]
	from := source.Intn(api.MaxPlace - room + 1)
	list := source.Perm(room)[:many]
	for i := range list {
		list[i] += from
	}
	return list
}

// randomPoints are many points, of a few shards.
func randomPoints(source *rand.Rand, many int) []api.Point {
	places := slices.Sorted(slices.Values(randomPlaces(source, many)))
	shards := 1 + source.Intn(api.MaxShards)
	var list []api.Point
	for _, at := range places {
		list = append(list, point(at, source.Intn(shards)))
	}
	return list
}

func wantOwner(t *testing.T, l []api.Point, at, want int) {
	t.Helper()
	if got, err := ring.Owner(l, at); got != want || err != api.OK {
		t.Errorf("Owner(%v, %d) = %d, %d; want %d, OK", l, at, got, err, want)
	}
}

func wantOwnerError(t *testing.T, what string, l []api.Point, at int, want api.Errno) {
	t.Helper()
	if got, err := ring.Owner(l, at); got != 0 || err != want {
		t.Errorf("Owner, %s, place %d = %d, %d; want 0, %d", what, at, got, err, want)
	}
}

func wantShares(t *testing.T, l []api.Point, want ...int) {
	t.Helper()
	if got, err := ring.Shares(l, len(want)); !slices.Equal(got, want) || err != api.OK {
		t.Errorf("Shares(%v, %d) = %v, %d; want %v, OK", l, len(want), got, err, want)
	}
}

func wantSharesError(t *testing.T, what string, l []api.Point, shards int, want api.Errno) {
	t.Helper()
	if got, err := ring.Shares(l, shards); len(got) != 0 || err != want {
		t.Errorf("Shares, %s, %d shards = %v, %d; want none, %d", what, shards, got, err, want)
	}
}

func wantAdd(t *testing.T, l []api.Point, shard int, places []int, want ...api.Point) {
	t.Helper()
	if got, err := ring.Add(l, shard, places); !slices.Equal(got, want) || err != api.OK {
		t.Errorf("Add(%v, %d, %v) = %v, %d; want %v, OK", l, shard, places, got, err, want)
	}
}

func wantAddError(t *testing.T, what string, l []api.Point, shard int, places []int, want api.Errno) {
	t.Helper()
	if got, err := ring.Add(l, shard, places); len(got) != 0 || err != want {
		t.Errorf("Add, %s, shard %d, %d places = %v, %d; want none, %d", what, shard, len(places), got, err, want)
	}
}

func wantRemove(t *testing.T, l []api.Point, shard int, want ...api.Point) {
	t.Helper()
	if got, err := ring.Remove(l, shard); !slices.Equal(got, want) || err != api.OK {
		t.Errorf("Remove(%v, %d) = %v, %d; want %v, OK", l, shard, got, err, want)
	}
}

func wantRemoveError(t *testing.T, what string, l []api.Point, shard int, want api.Errno) {
	t.Helper()
	if got, err := ring.Remove(l, shard); len(got) != 0 || err != want {
		t.Errorf("Remove, %s, shard %d = %v, %d; want none, %d", what, shard, got, err, want)
	}
}

// P11.

func TestCheckAcceptsPoints(t *testing.T) {
	for _, l := range append(goodLists(), nil, []api.Point{}) {
		if err := ring.Check(l); err != api.OK {
			t.Errorf("Check(%v) = %d, want OK", l, err)
		}
	}
	for many := range api.MaxPoints + 1 {
		if err := ring.Check(row(many, many, 1000)); err != api.OK {
			t.Errorf("Check of %d points = %d, want OK", many, err)
		}
	}
	for at := range api.MaxPlace {
		if err := ring.Check([]api.Point{point(at, at%api.MaxShards)}); err != api.OK {
			t.Errorf("Check of a point at %d = %d, want OK", at, err)
		}
	}
}

func TestCheckReturnsTheFirstError(t *testing.T) {
	for _, b := range badLists() {
		if err := ring.Check(b.l); err != b.want {
			t.Errorf("Check, %s = %d, want %d", b.name, err, b.want)
		}
	}
}

func TestCheckLooksAtEveryPoint(t *testing.T) {
	for i := range api.MaxPoints {
		check := func(p api.Point, want api.Errno) {
			t.Helper()
			l := row(api.MaxPoints, 1000, 100)
			l[i] = p
			if err := ring.Check(l); err != want {
				t.Errorf("Check with %v as point %d = %d, want %d", p, i, err, want)
			}
		}
		at := 1000 + 100*i
		check(point(at, -1), api.ErrRange)
		check(point(at, api.MaxShards), api.ErrRange)
		check(point(-1, 0), api.ErrRange)
		check(point(api.MaxPlace, 0), api.ErrRange)
		check(point(at-99, 0), api.OK)
		check(point(at+99, 0), api.OK)
		if i > 0 {
			check(point(at-100, 0), api.ErrState)
			check(point(0, 0), api.ErrState)
		}
		if i < api.MaxPoints-1 {
			check(point(at+100, 0), api.ErrState)
			check(point(lastPlace, 0), api.ErrState)
		}
	}
}

// P12.

func TestOwnerOfExamples(t *testing.T) {
	wantOwner(t, two(), 15, 2)
	wantOwner(t, two(), 21, 1)
}

func TestOwnerOfPlacesNearPoints(t *testing.T) {
	for at, want := range map[int]int{0: 1, 1: 1, 9: 1, 10: 1, 11: 2, 19: 2, 20: 2, 21: 1, 22: 1, lastPlace: 1} {
		wantOwner(t, two(), at, want)
	}
	ends := []api.Point{point(0, 3), point(lastPlace, 4)}
	for at, want := range map[int]int{0: 3, 1: 4, 2: 4, lastPlace - 1: 4, lastPlace: 4} {
		wantOwner(t, ends, at, want)
	}
}

func TestOwnerOfOnePointHasAllPlaces(t *testing.T) {
	for _, place := range []int{0, 1, 40000, lastPlace} {
		for shard := range api.MaxShards {
			for at := range api.MaxPlace {
				if got, err := ring.Owner([]api.Point{point(place, shard)}, at); got != shard || err != api.OK {
					t.Fatalf("Owner of %d, with a point at %d only = %d, %d; want %d, OK", at, place, got, err, shard)
				}
			}
		}
	}
}

func TestOwnersOfAllPlaces(t *testing.T) {
	for _, l := range goodLists() {
		for at, want := range slowOwners(l) {
			if got, err := ring.Owner(l, at); got != want || err != api.OK {
				t.Fatalf("Owner(%v, %d) = %d, %d; want %d, OK", l, at, got, err, want)
			}
		}
	}
}

func TestOwnerOfRandomPoints(t *testing.T) {
	source := rand.New(rand.NewSource(1))
	for range 300 {
		l := randomPoints(source, 1+source.Intn(api.MaxPoints))
		wantOwner(t, l, 0, slowOwner(l, 0))
		wantOwner(t, l, lastPlace, slowOwner(l, lastPlace))
		for _, p := range l {
			for _, at := range []int{max(p.At-1, 0), p.At, min(p.At+1, lastPlace)} {
				wantOwner(t, l, at, slowOwner(l, at))
			}
		}
	}
}

func TestOwnerRefusesBadPlacesAndNoPoints(t *testing.T) {
	for _, at := range notPlaces() {
		for _, l := range append(goodLists(), nil, []api.Point{}) {
			wantOwnerError(t, fmt.Sprint(l), l, at, api.ErrRange)
		}
	}
	for _, at := range []int{0, 1, 15, 32768, lastPlace} {
		for _, l := range [][]api.Point{nil, {}, two()[:0]} {
			wantOwnerError(t, "no points", l, at, api.ErrNone)
		}
	}
}

func TestSharesOfExamples(t *testing.T) {
	wantShares(t, two(), 0, api.MaxPlace-10, 10)
	wantShares(t, two(), 0, api.MaxPlace-10)
	wantShares(t, two(), 0)
	wantShares(t, two(), 0, api.MaxPlace-10, 10, 0, 0)
	wantShares(t, []api.Point{point(0, 1)}, 0, api.MaxPlace)
	wantShares(t, []api.Point{point(lastPlace, 0)}, api.MaxPlace)
	wantShares(t, []api.Point{point(0, 0), point(lastPlace, 1)}, 1, api.MaxPlace-1)
	wantShares(t, []api.Point{point(0, 0), point(1, 1)}, api.MaxPlace-1, 1)
	wantShares(t, []api.Point{point(100, 0), point(200, 1), point(400, 0), point(500, 2)}, api.MaxPlace-200, 100, 100)
}

func TestSharesCountTheOwners(t *testing.T) {
	for _, l := range goodLists() {
		for shards := 1; shards <= api.MaxShards; shards++ {
			wantShares(t, l, slowShares(l, shards)...)
		}
	}
	source := rand.New(rand.NewSource(2))
	for range 200 {
		l := randomPoints(source, 1+source.Intn(api.MaxPoints))
		wantShares(t, l, slowShares(l, 1+source.Intn(api.MaxShards))...)
	}
}

func TestSharesOfAllShardsAreAllPlaces(t *testing.T) {
	source := rand.New(rand.NewSource(3))
	for many := 1; many <= api.MaxPoints; many++ {
		l := randomPoints(source, many)
		shares, err := ring.Shares(l, api.MaxShards)
		sum := 0
		for _, share := range shares {
			sum += share
		}
		if sum != api.MaxPlace || len(shares) != api.MaxShards || err != api.OK {
			t.Errorf("Shares(%v, MaxShards) = %v, %d: %d places, want all", l, shares, err, sum)
		}
	}
}

func TestSharesRefuseBadNumbersAndNoPoints(t *testing.T) {
	for _, shards := range []int{0, -1, -api.MaxShards, api.MaxShards + 1, api.MaxPlace, math.MinInt, math.MaxInt, 1 << 32, 1<<32 + 1} {
		for _, l := range append(goodLists(), nil, []api.Point{}) {
			wantSharesError(t, fmt.Sprint(l), l, shards, api.ErrRange)
		}
	}
	for shards := 1; shards <= api.MaxShards; shards++ {
		for _, l := range [][]api.Point{nil, {}, two()[:0]} {
			wantSharesError(t, "no points", l, shards, api.ErrNone)
		}
	}
}

// P13.

func TestAddInsertsPoints(t *testing.T) {
	wantAdd(t, two(), 0, []int{15}, point(10, 1), point(15, 0), point(20, 2))
	wantAdd(t, two(), 0, []int{30, 5}, point(5, 0), point(10, 1), point(20, 2), point(30, 0))
	wantAdd(t, two(), 1, []int{11, 9, 21, 19}, point(9, 1), point(10, 1), point(11, 1), point(19, 1), point(20, 2), point(21, 1))
	wantAdd(t, two(), lastShard, []int{lastPlace, 0}, point(0, lastShard), point(10, 1), point(20, 2), point(lastPlace, lastShard))
	wantAdd(t, nil, 3, []int{7, 6, 8}, point(6, 3), point(7, 3), point(8, 3))
	wantAdd(t, []api.Point{}, 3, []int{7}, point(7, 3))
}

func TestAddAtNoPlaces(t *testing.T) {
	for _, l := range append(goodLists(), nil, []api.Point{}) {
		for shard := range api.MaxShards {
			wantAdd(t, l, shard, nil, l...)
			wantAdd(t, l, shard, []int{}, l...)
		}
	}
}

func TestAddAtEveryPlace(t *testing.T) {
	l := []api.Point{point(1, 3), point(40000, 4), point(lastPlace-1, 3)}
	for at := range api.MaxPlace {
		i := slices.IndexFunc(append(slices.Clone(l), point(api.MaxPlace, 0)), func(p api.Point) bool { return p.At >= at })
		if i < len(l) && l[i].At == at {
			wantAddError(t, "place of a point", l, 5, []int{at}, api.ErrTwice)
			continue
		}
		wantAdd(t, l, 5, []int{at}, slices.Insert(slices.Clone(l), i, point(at, 5))...)
	}
}

func TestAddOfRandomPoints(t *testing.T) {
	source := rand.New(rand.NewSource(4))
	for range 300 {
		places := randomPlaces(source, source.Intn(api.MaxPoints+1))
		old := source.Intn(len(places) + 1)
		var l []api.Point
		for _, at := range slices.Sorted(slices.Values(places[:old])) {
			l = append(l, point(at, source.Intn(api.MaxShards)))
		}
		shard := source.Intn(api.MaxShards)
		wantAdd(t, l, shard, places[old:], slowAdd(l, shard, places[old:])...)
	}
}

func TestAddUpToTheMostPoints(t *testing.T) {
	all := row(api.MaxPoints, 0, 7)
	for many := range api.MaxPoints + 1 {
		var places []int
		var want []api.Point
		for i, p := range all {
			if i >= many {
				p.Shard = 6
				places = append(places, p.At)
			}
			want = append(want, p)
		}
		wantAdd(t, all[:many], 6, places, want...)
		slices.Reverse(places)
		wantAdd(t, all[:many], 6, places, want...)
		wantAddError(t, fmt.Sprint(many, " points and one place too many"), all[:many], 6, append(places, 1000), api.ErrMany)
	}
}

func TestAddRefusesBadShardsAndPlaces(t *testing.T) {
	full := row(api.MaxPoints, 0, 1)
	for _, l := range append(goodLists(), nil, []api.Point{}) {
		for _, shard := range notShards() {
			for _, places := range [][]int{nil, {}, {5}, {10}, {5, 5}, {-1}, {api.MaxPlace}, make([]int, 1000)} {
				wantAddError(t, fmt.Sprint(l), l, shard, places, api.ErrRange)
			}
		}
		for _, at := range notPlaces() {
			for _, places := range [][]int{{at}, {at, at}, {5, at}, {5, at, 7}, {5, 5, at}, {10, at}, {at, 10}, append(make([]int, 1000), at)} {
				wantAddError(t, fmt.Sprint(l), l, 1, places, api.ErrRange)
			}
			wantAddError(t, fmt.Sprint(l), l, -1, []int{at}, api.ErrRange)
		}
	}
	wantAddError(t, "full, bad place", full, 0, []int{-1}, api.ErrRange)
	wantAddError(t, "full, bad shard", full, -1, []int{1000}, api.ErrRange)
}

func TestAddRefusesPlacesTwice(t *testing.T) {
	full := row(api.MaxPoints, 0, 1)
	for _, places := range [][]int{{10}, {20}, {10, 20}, {5, 10}, {5, 20}, {20, 5}, {5, 5}, {5, 6, 5}, {5, 6, 6}, {0, 0}, {lastPlace, lastPlace}, {10, 10}} {
		for shard := range api.MaxShards {
			wantAddError(t, "two points", two(), shard, places, api.ErrTwice)
		}
	}
	wantAddError(t, "no points", nil, 0, []int{5, 5}, api.ErrTwice)
	wantAddError(t, "full", full, 0, []int{0}, api.ErrTwice)
	wantAddError(t, "full", full, 0, []int{api.MaxPoints - 1}, api.ErrTwice)
	wantAddError(t, "full", full, 0, []int{1000, 1000}, api.ErrTwice)
	// So many places that one of them must occur twice.
	wantAddError(t, "no points", nil, 0, make([]int, 1<<20), api.ErrTwice)
	for i := range api.MaxPoints {
		places := make([]int, api.MaxPoints)
		for j := range places {
			places[j] = 100 + j
			if i != j {
				continue
			}
			places[j] = 10
		}
		wantAddError(t, "one of many places has a point", two(), 0, places, api.ErrTwice)
		if i > 0 {
			places[i] = 100
			wantAddError(t, "one of many places is the first one", two(), 0, places, api.ErrTwice)
		}
	}
}

func TestAddRefusesTooManyPoints(t *testing.T) {
	full := row(api.MaxPoints, 0, 1)
	everywhere := make([]int, api.MaxPlace)
	for at := range everywhere {
		everywhere[at] = at
	}
	wantAddError(t, "full", full, 0, []int{1000}, api.ErrMany)
	wantAddError(t, "full", full, lastShard, []int{lastPlace, lastPlace - 1}, api.ErrMany)
	wantAddError(t, "no points", nil, 0, everywhere[:api.MaxPoints+1], api.ErrMany)
	wantAddError(t, "no points", nil, 0, everywhere, api.ErrMany)
	wantAddError(t, "two points", two(), 0, everywhere[21:21+api.MaxPoints-1], api.ErrMany)
	wantAddError(t, "two points", two(), 0, everywhere, api.ErrTwice)
	wantAddError(t, "two points", two(), 0, append(everywhere, api.MaxPlace), api.ErrRange)
}

func TestRemoveOfExamples(t *testing.T) {
	l, err := ring.Add(two(), 0, []int{15, 5})
	if err != api.OK {
		t.Fatalf("Add: error %d", err)
	}
	wantRemove(t, l, 0, two()...)
	wantRemove(t, l, 1, point(5, 0), point(15, 0), point(20, 2))
	wantRemove(t, l, 2, point(5, 0), point(10, 1), point(15, 0))
	wantRemove(t, []api.Point{point(5, 7)}, 7)
	wantRemove(t, []api.Point{point(0, 7), point(9, 7), point(lastPlace, 7)}, 7)
}

func TestRemoveOfEveryShard(t *testing.T) {
	lists := goodLists()
	source := rand.New(rand.NewSource(5))
	for range 300 {
		lists = append(lists, randomPoints(source, 1+source.Intn(api.MaxPoints)))
	}
	for _, l := range lists {
		for shard := range api.MaxShards {
			want := without(l, shard)
			if len(want) == len(l) {
				wantRemoveError(t, fmt.Sprint(l), l, shard, api.ErrNone)
				continue
			}
			wantRemove(t, l, shard, want...)
		}
	}
}

func TestRemoveOfAShardWithoutPoints(t *testing.T) {
	for shard := range api.MaxShards {
		wantRemoveError(t, "no points", nil, shard, api.ErrNone)
		wantRemoveError(t, "no points", []api.Point{}, shard, api.ErrNone)
	}
	// A number that is not that of a shard has no points either.
	for _, shard := range notShards() {
		for _, l := range append(goodLists(), nil, []api.Point{}) {
			wantRemoveError(t, fmt.Sprint(l), l, shard, api.ErrNone)
		}
	}
}

func TestAddAndThenRemoveReturnsTheOriginalPoints(t *testing.T) {
	source := rand.New(rand.NewSource(6))
	for range 300 {
		l := randomPoints(source, 1+source.Intn(api.MaxPoints-1))
		shard := source.Intn(api.MaxShards)
		original := without(l, shard)
		var places []int
		for _, at := range randomPlaces(source, 1+source.Intn(api.MaxPoints-len(original))) {
			if !slices.ContainsFunc(original, func(p api.Point) bool { return p.At == at }) {
				places = append(places, at)
			}
		}
		if len(places) == 0 {
			continue
		}
		added, err := ring.Add(original, shard, places)
		if err != api.OK {
			t.Fatalf("Add(%v, %d, %v): error %d", original, shard, places, err)
		}
		wantRemove(t, added, shard, original...)
	}
}

func TestAllFirstReturnTheErrorOfCheck(t *testing.T) {
	for _, b := range badLists() {
		for _, at := range append(notPlaces(), 0, 5, lastPlace) {
			wantOwnerError(t, b.name, b.l, at, b.want)
			wantAddError(t, b.name, b.l, 0, []int{at}, b.want)
		}
		for _, n := range append(notShards(), 0, 1, lastShard) {
			wantSharesError(t, b.name, b.l, n, b.want)
			wantRemoveError(t, b.name, b.l, n, b.want)
			for _, places := range [][]int{nil, {}, {5}, {5, 5}, {-1}, make([]int, 1000)} {
				wantAddError(t, b.name, b.l, n, places, b.want)
			}
		}
	}
}

// If a shard is added or removed, only its own keys move.

func TestOnlyThePlacesOfAnAddedOrRemovedShardMove(t *testing.T) {
	source := rand.New(rand.NewSource(7))
	for range 30 {
		with := randomPoints(source, 2+source.Intn(api.MaxPoints-1))
		shard := with[0].Shard
		less, err := ring.Remove(with, shard)
		if err != api.OK {
			t.Fatalf("Remove(%v, %d): error %d", with, shard, err)
		}
		if len(less) == 0 {
			continue
		}
		for at := range api.MaxPlace {
			before, _ := ring.Owner(less, at)
			after, err := ring.Owner(with, at)
			if after != before && after != shard || before == shard || err != api.OK {
				t.Fatalf("place %d moves from shard %d to %d as shard %d is added to %v", at, before, after, shard, less)
			}
		}
	}
}

func TestAnAddedShardOwnsThePlacesBeforeItsPoints(t *testing.T) {
	for _, l := range goodLists() {
		for i, p := range l {
			before := l[(i+len(l)-1)%len(l)]
			// How far the point before is from the new one, around the ring.
			far := (p.At - 1 - before.At + api.MaxPlace) % api.MaxPlace
			if p.At == 0 || far == 0 || len(l) == api.MaxPoints {
				continue
			}
			others := slices.Clone(l)
			for j := range others {
				others[j].Shard = j % 3
			}
			m, err := ring.Add(others, 3, []int{p.At - 1})
			shares, _ := ring.Shares(m, 4)
			if err != api.OK || shares[3] != far {
				t.Errorf("a point at %d, added to %v: the shares are %v, error %d; want %d for shard 3", p.At-1, l, shares, err, far)
			}
		}
	}
}

// P2.

// sparePoints are points with spare capacity; all returns everything in their memory.
func sparePoints(l ...api.Point) (result []api.Point, all func() string) {
	whole := append(slices.Clone(l), point(-5, -5), point(-6, -6), point(-7, -7))
	return whole[:len(l)], func() string { return fmt.Sprint(whole[:cap(whole)]) }
}

func TestArgumentsAreNeitherChangedNorShared(t *testing.T) {
	l, all := sparePoints(point(10, 1), point(20, 2), point(30, 1))
	wholePlaces := []int{25, 5, 40, -5, -6, -7}
	everything := func() string { return fmt.Sprint(all(), wholePlaces) }
	before := everything()
	check := func(what string, points []api.Point, numbers []int, err, want api.Errno) {
		t.Helper()
		for i := range points[:cap(points)] {
			points[:cap(points)][i] = point(-8, -8)
		}
		for i := range numbers[:cap(numbers)] {
			numbers[:cap(numbers)][i] = -8
		}
		if err != want || everything() != before {
			t.Fatalf("%s: error %d, want %d; the arguments are now %s", what, err, want, everything())
		}
	}
	check("Check", nil, nil, ring.Check(l), api.OK)
	_, err := ring.Owner(l, 15)
	check("Owner", nil, nil, err, api.OK)
	shares, err := ring.Shares(l, 3)
	check("Shares", nil, shares, err, api.OK)
	for many := range 4 {
		got, err := ring.Add(l, 3, wholePlaces[:many])
		check(fmt.Sprint("Add at places: ", many), got, nil, err, api.OK)
	}
	got, err := ring.Add(l, 3, wholePlaces[:4])
	check("Add at a bad place", got, nil, err, api.ErrRange)
	got, err = ring.Add(l[:0], 3, wholePlaces[:3])
	check("Add to no points", got, nil, err, api.OK)
	for shard, want := range []api.Errno{api.ErrNone, api.OK, api.OK, api.ErrNone} {
		got, err := ring.Remove(l, shard)
		check(fmt.Sprint("Remove of ", shard), got, nil, err, want)
	}
	got, err = ring.Remove(l[:1], 1)
	check("Remove of the only shard", got, nil, err, api.OK)
}
