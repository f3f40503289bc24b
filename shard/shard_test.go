package shard_test

import (
	"fmt"
	"hash/fnv"
	"math"
	"math/rand"
	"slices"
	"strings"
	"testing"

	"slopchest/api"
	"slopchest/hash"
	"slopchest/shard"
)

// Names with the same hash, so that their shards have equal scores for every key.
const (
	oneTwin   = "8yn0iYCKYHlIj4-BwPqk"
	otherTwin = "GReLUrM4wMqfg9yzV3KQ"

	oneMoreTwin = "gMPflVXtwGDXbIhP73TX"
	itsOther    = "LtHf1prlU1bCeYZEdqWf"
)

// of is the shard with this name and this weight.
func of(name string, weight int) api.Shard { return api.Shard{Name: name, Weight: weight} }

// equals are many shards with different names, all with the same weight.
func equals(many, weight int) []api.Shard {
	list := make([]api.Shard, many)
	for i := range list {
		list[i] = of(fmt.Sprint("shard ", i), weight)
	}
	return list
}

// three are the shards of the examples.
func three() []api.Shard { return []api.Shard{of("A", 1), of("B", 1), of("C", 1)} }

// keys are many different keys, with arbitrary bytes among them.
func keys(many int) []string {
	list := []string{
		"", "a", "b", "A", "\x00", "\xff\xfe", "é", "shard 0",
		strings.Repeat("k", api.MaxText), strings.Repeat("\xff", api.MaxText), strings.Repeat("é", api.MaxText/2),
	}
	for i := range max(many-len(list), 0) {
		list = append(list, fmt.Sprint("key ", i))
	}
	return list[:many]
}

// tooLong are strings that are neither keys nor names.
func tooLong() []string {
	// The second one has fewer runes than MaxText, but more bytes.
	return []string{strings.Repeat("k", api.MaxText+1), strings.Repeat("é", api.MaxText/2+1), strings.Repeat("\x00", 1<<16)}
}

// notWeights are numbers that are not the weight of a shard.
func notWeights() []int {
	return []int{0, -1, api.MaxWeight + 1, -api.MaxWeight, math.MinInt, math.MaxInt, 1 << 32, 1<<32 + 1}
}

// scored is a name, and the score of its shard with weight 1 for the key "x".
type scored struct {
	name string
	want uint64
}

// extremes are names with scores of all sizes, rising. The names were computed
// from the scores; some scores differ by one only, or are those that a signed
// number or a float cannot hold.
func extremes() []scored {
	return []scored{
		{"aaa\x00y\x0a\x0c\x0d\x05\x07\x0f{\x0b\x02\x0d\x1c\x04\x01\x04", 0},
		{"aaa?\x0f;\x0c\x01\x0a\x04\x03\x07\x0c\x02\x03=\x00\x06\x01", 1},
		{"aaa<\x03\x06\x0d\x07\x06\x02\x04\x00\x14\x02\x0e\x05\x05\x01\x01", 1<<32 - 1},
		{"aab\x01\x04\x05\x00\x0c\x1f\x0e\x07\x1d\x0e\x01\x1e\x18\xfc\x0e\x03", 1 << 32},
		{"aaa\x04\x03>\x09\x03\x09\x0f\x06\x00\x09\x00\x02\x0c\x7f\x09\x1a", 1<<32 + 1},
		{"aaa\x01\x0f\x03\x01\x0c\x1e\x03\x08\x0a\x03\x0c\x1f\x06?\x08\x1a", 1 << 53},
		{"aab\x03\x07\x08\x06<\x00:\x00\x18\x0f\x00\x06\x05\x03\x0a\x07", 1<<53 + 1},
		{"aaa;\x02\x07\x06\x0f\x01\x1b\x04\x01\x03\x00\x08\x04\x02\x0d\x0c", 1<<63 - 1},
		{"aaa=\x03\x07\x07\x00\x14\x02\x1b\xfa\x0c\x01\x05\x06\x00\x01\x06", 1 << 63},
		{"aaa<\x06\x0d;\x05=\x0a\x06\x06\xff\x05\x08\x18\x04\x02\xff", 1<<63 + 1},
		{"aaa\x02\x00\x02\x00\x07\x00\x7f9\x1e\x00\x045\x00\x0b\x06\x03", math.MaxUint64 - 1},
		{"aaa<\x08\x0f\x03\x00\x01\x09\x02>\x01\x02\x15\x1f\x03{\x06", math.MaxUint64},
	}
}

// goodLists are lists with at least one shard that Check accepts.
func goodLists() [][]api.Shard {
	return [][]api.Shard{
		three(), {of("", 1)}, {of("A", api.MaxWeight)}, {of("A", 1), of("", 8), of("a", 2)}, {of("A", 1), of("A\x00", 1), of("\xff", 1), of("\xfe", 1)},
		equals(api.MaxShards, 1), equals(api.MaxShards, api.MaxWeight), {of(oneTwin, 3), of(otherTwin, 3)},
		{of(strings.Repeat("n", api.MaxText), 1), of(strings.Repeat("n", api.MaxText-1), 1)}, {of(strings.Repeat("é", api.MaxText/2), 1)},
		{of("w", 1), of("x", 2), of("y", 3), of("z", 4), of("wx", 5), of("xy", 6), of("yz", 7), of("zw", 8)},
	}
}

// bad is a list that Check refuses, and the error with which it does so.
type bad struct {
	name string
	l    []api.Shard
	want api.Errno
}

// badLists are lists that Check refuses.
func badLists() []bad {
	long := strings.Repeat("n", api.MaxText+1)
	many := append(equals(api.MaxShards, 1), of("one more", 1))
	list := []bad{
		{"too many", many, api.ErrMany},
		{"far too many", equals(1000, 1), api.ErrMany},
		{"too many, which are zero values", make([]api.Shard, api.MaxShards+1), api.ErrMany},
		{"too many, with the same name", slices.Repeat([]api.Shard{of("A", 1)}, api.MaxShards+1), api.ErrMany},
		{"too many, of which the first weighs too much", append([]api.Shard{of("A", 9)}, equals(api.MaxShards, 1)...), api.ErrMany},
		{"one zero value", make([]api.Shard, 1), api.ErrRange},
		{"MaxShards zero values", make([]api.Shard, api.MaxShards), api.ErrRange},
		{"same name", []api.Shard{of("A", 1), of("A", 1)}, api.ErrTwice},
		{"same name, another weight", []api.Shard{of("A", 1), of("A", 2)}, api.ErrTwice},
		{"no name twice", []api.Shard{of("", 1), of("", 1)}, api.ErrTwice},
		{"same long name", slices.Repeat([]api.Shard{of(long[1:], 1)}, 2), api.ErrTwice},
		{"first name again at the end", append(equals(api.MaxShards-1, 1), of("shard 0", 1)), api.ErrTwice},
		{"last name again at the end", append(equals(api.MaxShards-1, 1), of("shard 18", 1)), api.ErrTwice},
		{"range before the length of the name", []api.Shard{of(long, 0)}, api.ErrRange},
		{"range before twice", []api.Shard{of("A", 1), of("A", 9)}, api.ErrRange},
		{"length before twice", []api.Shard{of(long, 1), of(long, 1)}, api.ErrMany},
		{"length of the first before range of the second", []api.Shard{of(long, 1), of("A", 0)}, api.ErrMany},
		{"range of the first before length of the second", []api.Shard{of("A", 0), of(long, 1)}, api.ErrRange},
		{"twice before range of the third", []api.Shard{of("A", 1), of("A", 1), of("B", 0)}, api.ErrTwice},
		{"twice before length of the third", []api.Shard{of("A", 1), of("A", 1), of(long, 1)}, api.ErrTwice},
		{"range before twice of the third", []api.Shard{of("A", 1), of("B", 0), of("A", 1)}, api.ErrRange},
		{"length before twice of the third", []api.Shard{of("A", 1), of(long, 1), of("A", 1)}, api.ErrMany},
	}
	for _, weight := range notWeights() {
		list = append(list, bad{fmt.Sprint("weight ", weight), []api.Shard{of("A", weight)}, api.ErrRange})
		list = append(list, bad{fmt.Sprint("last weight ", weight), append(equals(api.MaxShards-1, 1), of("A", weight)), api.ErrRange})
	}
	for _, name := range tooLong() {
		list = append(list, bad{fmt.Sprint("name of bytes ", len(name)), []api.Shard{of(name, 1)}, api.ErrMany})
		list = append(list, bad{fmt.Sprint("last name of bytes ", len(name)), append(equals(api.MaxShards-1, 1), of(name, 1)), api.ErrMany})
	}
	return list
}

// slowSum is the hash of a string by the standard library.
func slowSum(s string) uint64 {
	sum := fnv.New64a()
	sum.Write([]byte(s))
	return sum.Sum64()
}

// slowScore sorts all numbers of the document, and takes the last one.
func slowScore(s api.Shard, key string) uint64 {
	var numbers []uint64
	for k := s.Weight - 1; k >= 0; k-- {
		inner := hash.Mix(slowSum(s.Name) ^ uint64(k))
		numbers = append(numbers, hash.Mix(inner^slowSum(key)))
	}
	slices.Sort(numbers)
	return numbers[len(numbers)-1]
}

// slowOwners counts for each shard how many come before it, which is its place.
func slowOwners(l []api.Shard, key string, many int) []int {
	order := make([]int, many)
	for i, s := range l {
		place := 0
		for j, other := range l {
			mine, its := slowScore(s, key), slowScore(other, key)
			if its > mine || its == mine && j < i {
				place++
			}
		}
		if place < many {
			order[place] = i
		}
	}
	return order
}

// slowMoved compares the names of the first of all owners.
func slowMoved(l, m []api.Shard, keys []string) []int {
	var moved []int
	for i, key := range keys {
		if l[slowOwners(l, key, 1)[0]].Name != m[slowOwners(m, key, 1)[0]].Name {
			moved = append(moved, i)
		}
	}
	return moved
}

// randomShards are up to MaxShards shards, with names of a few, in random order.
func randomShards(source *rand.Rand) []api.Shard {
	list := make([]api.Shard, 1+source.Intn(api.MaxShards))
	for i, name := range source.Perm(api.MaxShards + 5)[:len(list)] {
		list[i] = of(fmt.Sprint("shard ", name), 1+source.Intn(api.MaxWeight))
	}
	return list
}

func wantScore(t *testing.T, s api.Shard, key string, want uint64) {
	t.Helper()
	if got, err := shard.Score(s, key); got != want || err != api.OK {
		t.Errorf("Score(%v, %q) = %d, %d; want %d, OK", s, key, got, err, want)
	}
}

func wantScoreError(t *testing.T, s api.Shard, key string, want api.Errno) {
	t.Helper()
	if got, err := shard.Score(s, key); got != 0 || err != want {
		t.Errorf("Score with weight %d, a name of %d bytes, a key of %d = %d, %d; want 0, %d", s.Weight, len(s.Name), len(key), got, err, want)
	}
}

func wantOwner(t *testing.T, l []api.Shard, key string, want int) {
	t.Helper()
	if got, err := shard.Owner(l, key); got != want || err != api.OK {
		t.Errorf("Owner(%v, %q) = %d, %d; want %d, OK", l, key, got, err, want)
	}
}

func wantOwnerError(t *testing.T, what string, l []api.Shard, key string, want api.Errno) {
	t.Helper()
	if got, err := shard.Owner(l, key); got != 0 || err != want {
		t.Errorf("Owner, %s, key of %d bytes = %d, %d; want 0, %d", what, len(key), got, err, want)
	}
}

func wantOwners(t *testing.T, l []api.Shard, key string, want ...int) {
	t.Helper()
	if got, err := shard.Owners(l, key, len(want)); !slices.Equal(got, want) || err != api.OK {
		t.Errorf("Owners(%v, %q, %d) = %v, %d; want %v, OK", l, key, len(want), got, err, want)
	}
}

func wantOwnersError(t *testing.T, what string, l []api.Shard, key string, many int, want api.Errno) {
	t.Helper()
	if got, err := shard.Owners(l, key, many); len(got) != 0 || err != want {
		t.Errorf("Owners, %s, key of %d bytes, %d = %v, %d; want none, %d", what, len(key), many, got, err, want)
	}
}

func wantMoved(t *testing.T, l, m []api.Shard, keys []string, want ...int) {
	t.Helper()
	if got, err := shard.Moved(l, m, keys); !slices.Equal(got, want) || err != api.OK {
		t.Errorf("Moved(%v, %v, %q) = %v, %d; want %v, OK", l, m, keys, got, err, want)
	}
}

func wantMovedError(t *testing.T, what string, l, m []api.Shard, keys []string, want api.Errno) {
	t.Helper()
	if got, err := shard.Moved(l, m, keys); len(got) != 0 || err != want {
		t.Errorf("Moved, %s, %d keys = %v, %d; want none, %d", what, len(keys), got, err, want)
	}
}

// O1.

func TestCheckAcceptsShards(t *testing.T) {
	for _, l := range append(goodLists(), nil, []api.Shard{}) {
		if err := shard.Check(l); err != api.OK {
			t.Errorf("Check(%v) = %d, want OK", l, err)
		}
	}
	for weight := 1; weight <= api.MaxWeight; weight++ {
		for many := range api.MaxShards + 1 {
			if err := shard.Check(equals(many, weight)); err != api.OK {
				t.Errorf("Check of %d shards with weight %d = %d, want OK", many, weight, err)
			}
		}
	}
	for length := range api.MaxText + 1 {
		if err := shard.Check([]api.Shard{of(strings.Repeat("\xff", length), 1)}); err != api.OK {
			t.Errorf("Check of a name of %d bytes = %d, want OK", length, err)
		}
	}
}

func TestCheckReturnsTheFirstError(t *testing.T) {
	for _, b := range badLists() {
		if err := shard.Check(b.l); err != b.want {
			t.Errorf("Check, %s = %d, want %d", b.name, err, b.want)
		}
	}
}

func TestCheckComparesNamesWithAllEarlierOnes(t *testing.T) {
	for i := range api.MaxShards {
		for j := range i {
			l := equals(api.MaxShards, 1)
			l[i].Name = l[j].Name
			if err := shard.Check(l); err != api.ErrTwice {
				t.Errorf("Check, the name of shard %d is that of shard %d: %d, want ErrTwice", i, j, err)
			}
		}
	}
}

func TestCheckLooksAtEveryShard(t *testing.T) {
	for i := range api.MaxShards {
		l := equals(api.MaxShards, 1)
		l[i].Weight = 0
		if err := shard.Check(l); err != api.ErrRange {
			t.Errorf("Check with weight 0 of shard %d = %d, want ErrRange", i, err)
		}
		l[i] = of(strings.Repeat("n", api.MaxText+1), 1)
		if err := shard.Check(l); err != api.ErrMany {
			t.Errorf("Check with a long name of shard %d = %d, want ErrMany", i, err)
		}
	}
}

// O2.

func TestScoreOfExamples(t *testing.T) {
	wantScore(t, of("A", 1), "x", 7033673727633907424)
	wantScore(t, of("A", 8), "x", 15174652381344047922)
}

func TestScoreOfAllSizes(t *testing.T) {
	for _, e := range extremes() {
		wantScore(t, of(e.name, 1), "x", e.want)
	}
}

func TestScoreFollowsTheDocument(t *testing.T) {
	for _, l := range goodLists() {
		for _, s := range l {
			for _, key := range keys(40) {
				wantScore(t, s, key, slowScore(s, key))
			}
		}
	}
}

func TestScoreIsTheGreatestNumberWhicheverItIs(t *testing.T) {
	// For one of the keys, the number for each k is the greatest one.
	var seen [api.MaxWeight]bool
	for _, key := range keys(api.MaxTrace) {
		last := uint64(0)
		best := 0
		for k := range api.MaxWeight {
			want := slowScore(of("A", k+1), key)
			wantScore(t, of("A", k+1), key, want)
			if want > last {
				last, best = want, k
			}
		}
		seen[best] = true
	}
	if slices.Contains(seen[:], false) {
		t.Errorf("the numbers that were the greatest ones for a key: %v, want all", seen)
	}
}

func TestAGreaterWeightNeverReducesTheScore(t *testing.T) {
	for _, name := range keys(30) {
		for _, key := range keys(30) {
			last := uint64(0)
			for weight := 1; weight <= api.MaxWeight; weight++ {
				score, err := shard.Score(of(name, weight), key)
				if err != api.OK || score < last {
					t.Fatalf("Score of name %q, weight %d, key %q = %d, %d; with one less %d", name, weight, key, score, err, last)
				}
				last = score
			}
		}
	}
}

func TestScoreRefusesBadShards(t *testing.T) {
	long := strings.Repeat("n", api.MaxText+1)
	for _, key := range append(keys(12), tooLong()...) {
		for _, weight := range notWeights() {
			for _, name := range append(keys(12), tooLong()...) {
				wantScoreError(t, of(name, weight), key, api.ErrRange)
			}
		}
		for _, name := range tooLong() {
			wantScoreError(t, of(name, 1), key, api.ErrMany)
			wantScoreError(t, of(name, api.MaxWeight), key, api.ErrMany)
		}
		wantScoreError(t, api.Shard{}, key, api.ErrRange)
		wantScoreError(t, of(long, 0), key, api.ErrRange)
	}
}

func TestScoreRefusesLongKeys(t *testing.T) {
	for _, l := range goodLists() {
		for _, key := range tooLong() {
			wantScoreError(t, l[0], key, api.ErrMany)
		}
	}
}

// O3.

func TestOwnerOfExamples(t *testing.T) {
	for key, order := range map[string][]int{"v": {2, 1, 0}, "w": {1, 0, 2}, "x": {2, 0, 1}, "y": {2, 1, 0}, "z": {0, 1, 2}} {
		wantOwner(t, three(), key, order[0])
		for many := range 3 {
			wantOwners(t, three(), key, order[:many+1]...)
		}
	}
}

func TestOwnersFollowTheDocument(t *testing.T) {
	for _, l := range goodLists() {
		for _, key := range keys(20) {
			order := slowOwners(l, key, len(l))
			wantOwner(t, l, key, order[0])
			for many := range l {
				wantOwners(t, l, key, order[:many+1]...)
			}
		}
	}
}

func TestOwnersOfRandomShards(t *testing.T) {
	source := rand.New(rand.NewSource(1))
	for range 1000 {
		l, key := randomShards(source), fmt.Sprint("key ", source.Intn(1000))
		order := slowOwners(l, key, len(l))
		wantOwner(t, l, key, order[0])
		wantOwners(t, l, key, order...)
		wantOwners(t, l, key, order[:1+source.Intn(len(l))]...)
	}
}

func TestOfEqualScoresTheFirstOneComesFirst(t *testing.T) {
	for weight := 1; weight <= api.MaxWeight; weight++ {
		for _, key := range keys(20) {
			one, other := of(oneTwin, weight), of(otherTwin, weight)
			wantOwner(t, []api.Shard{one, other}, key, 0)
			wantOwner(t, []api.Shard{other, one}, key, 0)
			wantOwners(t, []api.Shard{one, other}, key, 0, 1)
			wantOwners(t, []api.Shard{other, one}, key, 0, 1)
			wantOwners(t, []api.Shard{other, one}, key, 0)
			for _, l := range [][]api.Shard{slices.Insert(three(), 1, one, other), append([]api.Shard{other}, append(three(), one)...)} {
				order := slowOwners(l, key, len(l))
				wantOwner(t, l, key, order[0])
				wantOwners(t, l, key, order...)
			}
		}
	}
}

func TestOfEqualScoresAmongManyTheFirstOneComesFirst(t *testing.T) {
	source := rand.New(rand.NewSource(4))
	for range 200 {
		weight := 1 + source.Intn(api.MaxWeight)
		l := append(equals(api.MaxShards-4, weight), of(oneTwin, weight), of(otherTwin, weight), of(oneMoreTwin, weight), of(itsOther, weight))
		source.Shuffle(len(l), func(i, j int) { l[i], l[j] = l[j], l[i] })
		key := fmt.Sprint("key ", source.Intn(1000))
		order := slowOwners(l, key, len(l))
		wantOwner(t, l, key, order[0])
		wantOwners(t, l, key, order...)
	}
}

func TestOneOfTwinsThatWeighsMoreHasAnEqualOrAGreaterScore(t *testing.T) {
	light, heavy := of(oneTwin, 1), of(otherTwin, api.MaxWeight)
	equal := 0
	for _, key := range keys(api.MaxTrace) {
		wantOwners(t, []api.Shard{heavy, light}, key, 0, 1)
		wantOwner(t, []api.Shard{heavy, light}, key, 0)
		if slowScore(light, key) < slowScore(heavy, key) {
			wantOwners(t, []api.Shard{light, heavy}, key, 1, 0)
			wantOwner(t, []api.Shard{light, heavy}, key, 1)
			continue
		}
		equal++
		wantOwners(t, []api.Shard{light, heavy}, key, 0, 1)
		wantOwner(t, []api.Shard{light, heavy}, key, 0)
	}
	if equal == 0 || equal == api.MaxTrace {
		t.Errorf("the scores are equal for %d of %d keys, want some", equal, api.MaxTrace)
	}
}

func TestOwnersAreOrderedByScoresOfAllSizes(t *testing.T) {
	list := extremes()
	var falling []int
	var l []api.Shard
	for i, e := range list {
		falling = append(falling, len(list)-1-i)
		l = append(l, of(e.name, 1))
		wantOwner(t, []api.Shard{of(e.name, 1)}, "x", 0)
		for _, less := range list[:i] {
			wantOwners(t, []api.Shard{of(e.name, 1), of(less.name, 1)}, "x", 0, 1)
			wantOwners(t, []api.Shard{of(less.name, 1), of(e.name, 1)}, "x", 1, 0)
			wantOwner(t, []api.Shard{of(e.name, 1), of(less.name, 1)}, "x", 0)
			wantOwner(t, []api.Shard{of(less.name, 1), of(e.name, 1)}, "x", 1)
		}
	}
	wantOwners(t, l, "x", falling...)
	slices.Reverse(l)
	slices.Reverse(falling)
	wantOwners(t, l, "x", falling...)
}

func TestOwnersAreAllShardsByDecreasingScore(t *testing.T) {
	for _, l := range goodLists() {
		for _, key := range keys(20) {
			order, err := shard.Owners(l, key, len(l))
			sorted := slices.Sorted(slices.Values(order))
			for i, at := range sorted {
				if i != at || len(sorted) != len(l) {
					t.Fatalf("Owners(%v, %q) = %v, %d; want every index once", l, key, order, err)
				}
			}
			for i := 1; i < len(order); i++ {
				before, _ := shard.Score(l[order[i-1]], key)
				after, _ := shard.Score(l[order[i]], key)
				if before < after {
					t.Errorf("Owners(%v, %q) = %v: the scores rise from %d to %d", l, key, order, before, after)
				}
			}
		}
	}
}

func TestOwnersRefuseBadKeysAndNoShards(t *testing.T) {
	for _, key := range tooLong() {
		for _, l := range append(goodLists(), nil, []api.Shard{}) {
			wantOwnerError(t, fmt.Sprint(l), l, key, api.ErrMany)
			for _, many := range []int{0, 1, len(l), len(l) + 1, math.MinInt, math.MaxInt} {
				wantOwnersError(t, fmt.Sprint(l), l, key, many, api.ErrMany)
			}
		}
	}
	for _, key := range keys(20) {
		for _, l := range [][]api.Shard{nil, {}, three()[:0]} {
			wantOwnerError(t, "no shards", l, key, api.ErrNone)
			for _, many := range []int{-1, 0, 1, 2, math.MinInt, math.MaxInt} {
				wantOwnersError(t, "no shards", l, key, many, api.ErrNone)
			}
		}
	}
}

func TestOwnersRefuseBadNumbers(t *testing.T) {
	for _, l := range goodLists() {
		for _, many := range []int{0, -1, -len(l), len(l) + 1, api.MaxShards + 1, math.MinInt, math.MaxInt, 1 << 32, 1<<32 + 1} {
			wantOwnersError(t, fmt.Sprint(l), l, "key", many, api.ErrRange)
		}
	}
}

func TestOwnersFirstReturnTheErrorOfCheck(t *testing.T) {
	for _, b := range badLists() {
		for _, key := range append(keys(12), tooLong()...) {
			wantOwnerError(t, b.name, b.l, key, b.want)
			for _, many := range []int{-1, 0, 1, len(b.l), len(b.l) + 1, math.MinInt, math.MaxInt} {
				wantOwnersError(t, b.name, b.l, key, many, b.want)
			}
		}
	}
}

// O4.

func TestMovedOfExamples(t *testing.T) {
	letters := []string{"v", "w", "x", "y", "z"}
	wantMoved(t, three(), three()[:2], letters, 0, 2, 3)
	wantMoved(t, three()[:2], three(), letters, 0, 2, 3)
	wantMoved(t, three(), three(), letters)
	wantMoved(t, three(), three()[1:], letters, 4)
	wantMoved(t, three(), three()[:1], letters, 0, 1, 2, 3)
}

func TestMovedWithoutKeys(t *testing.T) {
	lists := append(goodLists(), nil, []api.Shard{})
	for _, b := range badLists() {
		lists = append(lists, b.l)
	}
	for _, l := range lists {
		for _, m := range lists {
			wantMoved(t, l, m, nil)
			wantMoved(t, l, m, []string{})
		}
	}
}

func TestMovedFollowsTheDocument(t *testing.T) {
	for _, l := range goodLists() {
		for _, m := range goodLists() {
			wantMoved(t, l, m, keys(20), slowMoved(l, m, keys(20))...)
		}
	}
	source := rand.New(rand.NewSource(2))
	for range 100 {
		l, m, some := randomShards(source), randomShards(source), keys(api.MaxTrace)[source.Intn(api.MaxTrace):]
		wantMoved(t, l, m, some, slowMoved(l, m, some)...)
	}
}

func TestMovedComparesNames(t *testing.T) {
	all := make([]int, api.MaxTrace)
	for i := range all {
		all[i] = i
	}
	some := keys(api.MaxTrace)
	// At the same index, with equal scores: the names differ.
	wantMoved(t, []api.Shard{of(oneTwin, 1)}, []api.Shard{of(otherTwin, 1)}, some, all...)
	wantMoved(t, []api.Shard{of("A", 1)}, []api.Shard{of("a", 1)}, some, all...)
	wantMoved(t, []api.Shard{of("A", 1)}, []api.Shard{of("", 1)}, some, all...)
	// At other indices and with other weights: the names are the same.
	wantMoved(t, []api.Shard{of("A", 1)}, []api.Shard{of("A", 8)}, some)
	wantMoved(t, three(), []api.Shard{of("C", 1), of("A", 1), of("B", 1)}, some)
	wantMoved(t, []api.Shard{of(oneTwin, 2), of(otherTwin, 2)}, []api.Shard{of(otherTwin, 2), of(oneTwin, 2)}, some, all...)
	wantMoved(t, []api.Shard{of(oneTwin, 2), of(otherTwin, 2)}, []api.Shard{of(oneTwin, 3)}, some)
}

func TestMovedHasAnIndexForEachOfEqualKeys(t *testing.T) {
	wantMoved(t, three(), three()[:2], []string{"x", "z", "x", "x", "w", "v", "z", "v"}, 0, 2, 3, 5, 7)
}

func TestMovedReturnsErrors(t *testing.T) {
	long := tooLong()[0]
	many := make([]string, api.MaxTrace+1)
	for _, l := range append(goodLists(), nil) {
		wantMovedError(t, "too many keys", l, l, many, api.ErrMany)
		wantMovedError(t, "too many long keys", l, l, slices.Repeat([]string{long}, 1000), api.ErrMany)
	}
	for _, key := range tooLong() {
		wantMovedError(t, "long key", three(), three(), []string{key}, api.ErrMany)
		wantMovedError(t, "last key long", three(), three(), append(keys(api.MaxTrace-1), key), api.ErrMany)
		wantMovedError(t, "long key, no shards", nil, nil, []string{key}, api.ErrMany)
		wantMovedError(t, "long key, no shards in l", nil, three(), []string{key}, api.ErrMany)
		wantMovedError(t, "long key, no shards in m", three(), nil, []string{key}, api.ErrMany)
	}
	for _, some := range [][]string{{"a"}, {"a", long}, {"", long, "x"}, keys(api.MaxTrace)} {
		wantMovedError(t, "no shards", nil, nil, some, api.ErrNone)
		wantMovedError(t, "no shards in l", nil, three(), some, api.ErrNone)
		wantMovedError(t, "no shards in m", three(), nil, some, api.ErrNone)
	}
}

func TestMovedReturnsTheErrorsOfOwner(t *testing.T) {
	long := tooLong()[0]
	for _, b := range badLists() {
		wantMovedError(t, "too many keys, l: "+b.name, b.l, three(), make([]string, api.MaxTrace+1), api.ErrMany)
		wantMovedError(t, "too many keys, m: "+b.name, three(), b.l, make([]string, api.MaxTrace+1), api.ErrMany)
		for _, some := range [][]string{{"a"}, {"a", long}, keys(api.MaxTrace)} {
			wantMovedError(t, "l: "+b.name, b.l, three(), some, b.want)
			wantMovedError(t, "m: "+b.name, three(), b.l, some, b.want)
			wantMovedError(t, "l: "+b.name+", m: none", b.l, nil, some, b.want)
			wantMovedError(t, "l: none, m: "+b.name, nil, b.l, some, api.ErrNone)
			for _, c := range badLists() {
				wantMovedError(t, "l: "+b.name+", m: "+c.name, b.l, c.l, some, b.want)
			}
		}
		// The key is looked up in l, where it is too long, before m is.
		wantMovedError(t, "long key, l: "+b.name, b.l, three(), []string{long}, b.want)
		wantMovedError(t, "long key, m: "+b.name, three(), b.l, []string{long, "a"}, api.ErrMany)
	}
}

// If a shard is added or removed, only its own keys move.

func TestOnlyTheKeysOfAnAddedOrRemovedShardMove(t *testing.T) {
	source := rand.New(rand.NewSource(3))
	some := keys(api.MaxTrace)
	for range 100 {
		l := randomShards(source)
		if len(l) < 2 {
			continue
		}
		at := source.Intn(len(l))
		without := slices.Delete(slices.Clone(l), at, at+1)
		var own []int
		for i, key := range some {
			if owner, _ := shard.Owner(l, key); owner == at {
				own = append(own, i)
			}
		}
		wantMoved(t, l, without, some, own...)
		wantMoved(t, without, l, some, own...)
	}
}

func TestTheKeysOfARemovedShardGoToTheNextOwner(t *testing.T) {
	for _, key := range keys(api.MaxTrace) {
		l := equals(api.MaxShards, 2)
		order, _ := shard.Owners(l, key, len(l))
		for _, at := range order {
			owner, err := shard.Owner(l, key)
			if err != api.OK || l[owner].Name != fmt.Sprint("shard ", at) {
				t.Fatalf("Owner(%v, %q) = %d, %d; want the index of shard %d", l, key, owner, err, at)
			}
			l = slices.Delete(l, owner, owner+1)
		}
	}
}

func TestAShardThatWeighsMoreOnlyGainsKeys(t *testing.T) {
	some := keys(api.MaxTrace)
	for at := range 5 {
		for weight := 1; weight < api.MaxWeight; weight++ {
			l, m := equals(5, 3), equals(5, 3)
			l[at].Weight, m[at].Weight = weight, weight+1
			moved, err := shard.Moved(l, m, some)
			if err != api.OK {
				t.Fatalf("Moved(%v, %v): error %d", l, m, err)
			}
			for _, i := range moved {
				wantOwner(t, m, some[i], at)
			}
		}
	}
}

// P2.

// spareShards are shards with spare capacity; all returns everything in their memory.
func spareShards(l ...api.Shard) (result []api.Shard, all func() string) {
	whole := append(slices.Clone(l), of("spare", -5), of("room", -6))
	return whole[:len(l)], func() string { return fmt.Sprint(whole[:cap(whole)]) }
}

// overwrite fills the whole memory of a list.
func overwrite(list []int) {
	list = list[:cap(list)]
	for i := range list {
		list[i] = -8
	}
}

func TestArgumentsAreNeitherChangedNorShared(t *testing.T) {
	l, allL := spareShards(of("A", 1), of("C", 2), of("B", 3))
	m, allM := spareShards(of("C", 3), of("A", 2))
	wholeKeys := []string{"z", "y", "x", "w", "spare", "room"}
	some := wholeKeys[:4]
	everything := func() string { return fmt.Sprint(allL(), allM(), wholeKeys) }
	before := everything()
	check := func(what string, got []int, err, want api.Errno) {
		t.Helper()
		overwrite(got)
		if err != want || everything() != before {
			t.Fatalf("%s: error %d, want %d; the arguments are now %s", what, err, want, everything())
		}
	}
	check("Check", nil, shard.Check(l), api.OK)
	for _, key := range some {
		_, err := shard.Score(l[0], key)
		check("Score", nil, err, api.OK)
		_, err = shard.Owner(l, key)
		check("Owner", nil, err, api.OK)
		for many := range 5 {
			got, err := shard.Owners(l, key, many)
			check("Owners", got, err, []api.Errno{api.ErrRange, api.OK, api.OK, api.OK, api.ErrRange}[many])
		}
	}
	got, err := shard.Moved(l, m, some)
	check("Moved", got, err, api.OK)
	got, err = shard.Moved(l, m[:1], some)
	check("Moved to one shard", got, err, api.OK)
	got, err = shard.Moved(l, m[:0], some)
	check("Moved to no shards", got, err, api.ErrNone)
}
