package distance_test

import (
	"fmt"
	"math"
	"math/big"
	"math/rand"
	"slices"
	"testing"

	"slopchest/api"
	"slopchest/distance"
	"slopchest/lru"
	"slopchest/optimal"
)

// keys is a list of keys.
func keys(list ...int) []int { return list }

// upTo are the keys 0 to many - 1.
func upTo(many int) []int {
	list := make([]int, many)
	for i := range list {
		list[i] = i
	}
	return list
}

// same is a list of so many times one number.
func same(number, many int) []int {
	return slices.Repeat(keys(number), many)
}

// around are the keys 0 to kinds - 1 over and over, as many as a trace may have.
func around(kinds int) []int {
	return slices.Repeat(upTo(kinds), api.MaxTrace)[:api.MaxTrace]
}

// rooms is a list of MaxRoom numbers: the given ones, and the last of them again for all larger rooms.
func rooms(first ...int) []int {
	return append(first, same(first[len(first)-1], api.MaxRoom-len(first))...)
}

// notPercents are numbers that are no percentage.
func notPercents() []int {
	return keys(-1, 101, -50, 200, math.MinInt, math.MaxInt, 1<<32, 1<<32+50)
}

func wantDistances(t *testing.T, trace, want []int) {
	t.Helper()
	if got, err := distance.Distances(trace); !slices.Equal(got, want) || err != api.OK {
		t.Errorf("Distances(%v) = %v, %d; want %v, OK", trace, got, err, want)
	}
}

// wantHits compares what Hits returns, and what Misses returns.
func wantHits(t *testing.T, trace, want []int) {
	t.Helper()
	if got, err := distance.Hits(trace); !slices.Equal(got, want) || err != api.OK {
		t.Errorf("Hits(%v) = %v, %d; want %v, OK", trace, got, err, want)
	}
	misses := make([]int, len(want))
	for i, hits := range want {
		misses[i] = len(trace) - hits
	}
	if got, err := distance.Misses(trace); !slices.Equal(got, misses) || err != api.OK {
		t.Errorf("Misses(%v) = %v, %d; want %v, OK", trace, got, err, misses)
	}
}

func wantRoom(t *testing.T, trace []int, percent, want int) {
	t.Helper()
	if got, err := distance.Room(trace, percent); got != want || err != api.OK {
		t.Errorf("Room(%v, %d) = %d, %d; want %d, OK", trace, percent, got, err, want)
	}
}

func wantRoomError(t *testing.T, what string, trace []int, percent int, want api.Errno) {
	t.Helper()
	if got, err := distance.Room(trace, percent); got != 0 || err != want {
		t.Errorf("Room for %d percent, %s: %d, %d; want 0, %d", percent, what, got, err, want)
	}
}

// badTrace is a trace that lru.CheckTrace refuses.
type badTrace struct {
	name  string
	trace []int
	want  api.Errno
}

// badTraces are traces with each of the errors of lru.CheckTrace, alone and with others.
func badTraces() []badTrace {
	list := []badTrace{
		{"a key too many", upTo(api.MaxTrace + 1), api.ErrMany},
		{"a key too many, all equal", make([]int, api.MaxTrace+1), api.ErrMany},
		{"very many keys", make([]int, 1<<16), api.ErrMany},
	}
	for _, key := range keys(-1, api.MaxKey+1, -api.MaxKey, math.MinInt, math.MaxInt, 1<<32, 1<<32+1) {
		for _, at := range keys(0, 1, 100, api.MaxTrace-1) {
			trace := upTo(api.MaxTrace)
			trace[at] = key
			list = append(list, badTrace{fmt.Sprintf("key %d at %d", key, at), trace, api.ErrRange},
				badTrace{fmt.Sprintf("many before key %d at %d", key, at), append(slices.Clone(trace), 1), api.ErrMany})
		}
		list = append(list, badTrace{fmt.Sprint("only key ", key), keys(key), api.ErrRange})
	}
	return list
}

// someTraces are traces of several lengths and with several numbers of kinds of keys: some have distances above MaxRoom.
func someTraces(source *rand.Rand, many int) [][]int {
	list := [][]int{nil, {1}, {0, api.MaxKey, 0}, upTo(api.MaxTrace)}
	for _, kinds := range keys(1, 2, api.MaxRoom-1, api.MaxRoom, api.MaxRoom+1, api.MaxTrace/2) {
		list = append(list, around(kinds))
	}
	for range many {
		trace, kinds := make([]int, source.Intn(api.MaxTrace+1)), 1+source.Intn(2*api.MaxRoom)
		for i := range trace {
			trace[i] = source.Intn(kinds)
		}
		list = append(list, trace)
	}
	return list
}

// slowDistance goes backward from an access to the preceding one of the same key, and collects the keys between them.
func slowDistance(trace []int, i int) int {
	different := map[int]bool{}
	for j := i - 1; j >= 0; j-- {
		different[trace[j]] = true
		if trace[j] == trace[i] {
			return len(different)
		}
	}
	return 0
}

func slowDistances(trace []int) []int {
	list := make([]int, len(trace))
	for i := range trace {
		list[i] = slowDistance(trace, i)
	}
	return list
}

// slowHits counts the accesses anew for each room.
func slowHits(trace []int) []int {
	list, distances := make([]int, api.MaxRoom), slowDistances(trace)
	for i := range list {
		for _, d := range distances {
			if 1 <= d && d <= i+1 {
				list[i]++
			}
		}
	}
	return list
}

// slowRoom compares fractions, and returns 0 if no room has enough hits.
func slowRoom(hits []int, many, percent int) int {
	if many == 0 {
		return 1
	}
	for i, h := range hits {
		if big.NewRat(int64(h), int64(many)).Cmp(big.NewRat(int64(percent), 100)) >= 0 {
			return i + 1
		}
	}
	return 0
}

// K1.

func TestDistancesOfTheExample(t *testing.T) {
	wantDistances(t, keys(1, 2, 1, 1), keys(0, 0, 2, 1))
}

func TestDistancesOfTheEmptyTrace(t *testing.T) {
	wantDistances(t, nil, nil)
	wantDistances(t, keys(), nil)
}

func TestDistanceOfAFirstAccessIs0(t *testing.T) {
	wantDistances(t, keys(0), keys(0))
	wantDistances(t, keys(api.MaxKey), keys(0))
	wantDistances(t, upTo(api.MaxTrace), make([]int, api.MaxTrace))
	// However many accesses to other keys precede it.
	wantDistances(t, keys(1, 1, 2, 1, 3), keys(0, 1, 0, 2, 0))
}

func TestDistanceCountsEachKeyOnce(t *testing.T) {
	wantDistances(t, keys(1, 2, 2, 2, 1), keys(0, 0, 1, 1, 2))
	wantDistances(t, keys(1, 2, 3, 2, 3, 3, 1), keys(0, 0, 0, 2, 2, 1, 3))
	wantDistances(t, keys(5, 0, api.MaxKey, 0, 5), keys(0, 0, 0, 2, 3))
}

func TestDistanceReachesToThePrecedingAccessOnly(t *testing.T) {
	// The keys before the last access to 1 do not count for the next one.
	wantDistances(t, keys(1, 2, 3, 1, 1), keys(0, 0, 0, 3, 1))
	wantDistances(t, keys(2, 3, 4, 1, 5, 1), keys(0, 0, 0, 0, 0, 2))
	// An access inside of another interval counts for it, and has its own interval.
	wantDistances(t, keys(1, 2, 1, 2, 3, 1, 2, 3), keys(0, 0, 2, 2, 0, 3, 3, 3))
	wantDistances(t, keys(1, 2, 3, 3, 2, 1), keys(0, 0, 0, 1, 2, 3))
}

func TestDistancesOfTheLongestTraces(t *testing.T) {
	wantDistances(t, same(api.MaxKey, api.MaxTrace), append(keys(0), same(1, api.MaxTrace-1)...))
	for kinds := 1; kinds <= api.MaxTrace; kinds++ {
		wantDistances(t, around(kinds), append(make([]int, kinds), same(kinds, api.MaxTrace-kinds)...))
	}
	// There and back.
	back := upTo(api.MaxTrace / 2)
	slices.Reverse(back)
	want := append(make([]int, api.MaxTrace/2), upTo(api.MaxTrace/2 + 1)[1:]...)
	wantDistances(t, append(upTo(api.MaxTrace/2), back...), want)
}

func TestDistancesFollowsTheDocument(t *testing.T) {
	for _, trace := range someTraces(rand.New(rand.NewSource(1)), 300) {
		wantDistances(t, trace, slowDistances(trace))
	}
}

func TestDistancesDoesNotDependOnTheNumbersOfKeys(t *testing.T) {
	for _, trace := range someTraces(rand.New(rand.NewSource(2)), 100) {
		want := slowDistances(trace)
		other := slices.Clone(trace)
		for i, key := range other {
			other[i] = api.MaxKey - key
		}
		wantDistances(t, other, want)
	}
}

func TestDistancesReturnsTheErrorOfCheckTrace(t *testing.T) {
	for _, b := range badTraces() {
		if got, err := distance.Distances(b.trace); len(got) != 0 || err != b.want {
			t.Errorf("Distances, %s: %v, %d; want no distances, %d", b.name, got, err, b.want)
		}
	}
}

// K2.

func TestHitsAndMissesOfTheExample(t *testing.T) {
	wantHits(t, keys(1, 2, 1, 1), rooms(1, 2))
	got, err := distance.Misses(keys(1, 2, 1, 1))
	if want := rooms(3, 2); !slices.Equal(got, want) || err != api.OK {
		t.Errorf("Misses = %v, %d; want %v, OK", got, err, want)
	}
}

func TestHitsOfTracesWithoutAny(t *testing.T) {
	for _, trace := range [][]int{nil, {}, {0}, {api.MaxKey}, {2, 1, 0}, upTo(api.MaxTrace)} {
		wantHits(t, trace, rooms(0))
	}
}

func TestHitsOfKnownTraces(t *testing.T) {
	wantHits(t, keys(1, 1), rooms(1))
	wantHits(t, keys(1, 2, 3, 1), rooms(0, 0, 1))
	wantHits(t, keys(1, 2, 3, 3, 2, 1), rooms(1, 2, 3))
	wantHits(t, keys(1, 2, 1, 1, 3, 2), rooms(1, 2, 3))
	wantHits(t, make([]int, api.MaxTrace), rooms(api.MaxTrace-1))
}

func TestHitsCountsDistancesUpToTheRoom(t *testing.T) {
	for kinds := 1; kinds <= api.MaxTrace; kinds++ {
		want := make([]int, api.MaxRoom)
		for room := kinds; room <= api.MaxRoom; room++ {
			want[room-1] = api.MaxTrace - kinds
		}
		wantHits(t, around(kinds), want)
	}
}

func TestHitsAndMissesFollowTheDocument(t *testing.T) {
	for _, trace := range someTraces(rand.New(rand.NewSource(3)), 40) {
		wantHits(t, trace, slowHits(trace))
	}
}

func TestHitsAreThoseOfAnEmptyCache(t *testing.T) {
	for _, trace := range someTraces(rand.New(rand.NewSource(4)), 100) {
		want := make([]int, api.MaxRoom)
		for i := range want {
			_, hits, err := lru.Run(api.Cache{Room: i + 1}, trace)
			if err != api.OK {
				t.Fatalf("Run: error %d", err)
			}
			want[i] = hits
		}
		wantHits(t, trace, want)
	}
}

func TestALargerRoomHasNoFewerHitsAndTheOptimalPolicyNoMoreMisses(t *testing.T) {
	for _, trace := range someTraces(rand.New(rand.NewSource(5)), 40) {
		hits, _ := distance.Hits(trace)
		misses, _ := distance.Misses(trace)
		if !slices.IsSorted(hits) {
			t.Errorf("Hits(%v) = %v: a larger room has fewer", trace, hits)
		}
		for i, many := range misses {
			if _, least, err := optimal.Evictions(trace, i+1); many < least || err != api.OK {
				t.Errorf("Misses(%v) = %v; with room %d the optimal policy has %d, %d", trace, misses, i+1, least, err)
			}
		}
	}
}

func TestHitsAndMissesReturnTheErrorOfCheckTrace(t *testing.T) {
	for _, b := range badTraces() {
		if got, err := distance.Hits(b.trace); len(got) != 0 || err != b.want {
			t.Errorf("Hits, %s: %v, %d; want no numbers, %d", b.name, got, err, b.want)
		}
		if got, err := distance.Misses(b.trace); len(got) != 0 || err != b.want {
			t.Errorf("Misses, %s: %v, %d; want no numbers, %d", b.name, got, err, b.want)
		}
	}
}

// K3.

func TestRoomOfTheExample(t *testing.T) {
	trace := keys(1, 2, 1, 1)
	wantRoom(t, trace, 50, 2)
	wantRoom(t, trace, 0, 1)
	wantRoom(t, trace, 25, 1)
	wantRoom(t, trace, 26, 2)
	wantRoomError(t, "two of four are hits", trace, 51, api.ErrNone)
	wantRoomError(t, "two of four are hits", trace, 100, api.ErrNone)
}

func TestRoomOfTheEmptyTraceIs1(t *testing.T) {
	for percent := range 101 {
		wantRoom(t, nil, percent, 1)
		wantRoom(t, keys(), percent, 1)
	}
}

func TestRoomFor0PercentIs1(t *testing.T) {
	for _, trace := range someTraces(rand.New(rand.NewSource(6)), 20) {
		wantRoom(t, trace, 0, 1)
	}
}

func TestThereIsNoRoomFor100PercentOfATraceWithKeys(t *testing.T) {
	for _, trace := range someTraces(rand.New(rand.NewSource(7)), 20) {
		if len(trace) > 0 {
			wantRoomError(t, fmt.Sprint("trace ", trace), trace, 100, api.ErrNone)
		}
	}
}

func TestRoomDoesNotRound(t *testing.T) {
	// One of three accesses is a hit.
	wantRoom(t, keys(1, 1, 2), 33, 1)
	wantRoomError(t, "one of three is a hit", keys(1, 1, 2), 34, api.ErrNone)
	// Two of three are hits.
	wantRoom(t, keys(1, 1, 1), 66, 1)
	wantRoomError(t, "two of three are hits", keys(1, 1, 1), 67, api.ErrNone)
	// Of 200 accesses one is half a percent: two are one percent, 198 are 99, and 199 are less than 100.
	once := upTo(api.MaxTrace)
	once[1] = 0
	wantRoomError(t, "one of 200 is a hit", once, 1, api.ErrNone)
	once[2] = 0
	wantRoom(t, once, 1, 1)
	wantRoom(t, around(2), 99, 2)
	wantRoomError(t, "198 of 200 are hits", around(2), 100, api.ErrNone)
	wantRoom(t, around(1), 99, 1)
	wantRoomError(t, "199 of 200 are hits", around(1), 100, api.ErrNone)
}

func TestRoomIsTheSmallestOne(t *testing.T) {
	for kinds := 1; kinds <= api.MaxRoom; kinds++ {
		most := (api.MaxTrace - kinds) * 100 / api.MaxTrace
		for _, percent := range keys(1, 50, most) {
			wantRoom(t, around(kinds), percent, kinds)
		}
		wantRoomError(t, fmt.Sprint(kinds, " kinds"), around(kinds), most+1, api.ErrNone)
	}
	// A room of more than MaxRoom is none.
	for _, percent := range keys(1, 50, 79, 100) {
		wantRoomError(t, "41 kinds", around(api.MaxRoom+1), percent, api.ErrNone)
	}
}

func TestRoomFollowsTheDocument(t *testing.T) {
	for _, trace := range someTraces(rand.New(rand.NewSource(8)), 60) {
		hits := slowHits(trace)
		for percent := range 101 {
			if want := slowRoom(hits, len(trace), percent); want > 0 {
				wantRoom(t, trace, percent, want)
			} else {
				wantRoomError(t, fmt.Sprint("trace ", trace), trace, percent, api.ErrNone)
			}
		}
	}
}

func TestRoomRefusesBadPercentages(t *testing.T) {
	for _, trace := range [][]int{nil, {}, {1}, {1, 2, 1, 1}, upTo(api.MaxTrace), make([]int, api.MaxTrace)} {
		for _, percent := range notPercents() {
			wantRoomError(t, fmt.Sprintf("%d keys", len(trace)), trace, percent, api.ErrRange)
		}
	}
}

func TestRoomFirstReturnsTheErrorOfCheckTrace(t *testing.T) {
	for _, b := range badTraces() {
		for _, percent := range append(notPercents(), 0, 50, 100) {
			wantRoomError(t, b.name, b.trace, percent, b.want)
		}
	}
}

// P2.

func TestArgumentsAreNeitherChangedNorShared(t *testing.T) {
	long := keys(1, 2, 3, 1, 4, 2, 3, -5, -6)
	before := fmt.Sprint(long)
	for many := range len(long) - 1 {
		trace := long[:many]
		for name, function := range map[string]func([]int) ([]int, api.Errno){
			"Distances": distance.Distances, "Hits": distance.Hits, "Misses": distance.Misses,
		} {
			got, err := function(trace)
			if err != api.OK || fmt.Sprint(long) != before {
				t.Fatalf("%s of %d keys: error %d; the arguments are now %v", name, many, err, long)
			}
			spare := got[:cap(got)]
			for i := range spare {
				spare[i] = -8
			}
			if fmt.Sprint(long) != before {
				t.Fatalf("%s of %d keys returns memory of its argument: %v", name, many, long)
			}
		}
		if _, err := distance.Room(trace, 0); err != api.OK || fmt.Sprint(long) != before {
			t.Fatalf("Room of %d keys: error %d; the arguments are now %v", many, err, long)
		}
	}
	if _, err := distance.Distances(long); err != api.ErrRange || fmt.Sprint(long) != before {
		t.Errorf("Distances of no trace: error %d; the arguments are now %v", err, long)
	}
}
