package rate_test

import (
	"fmt"
	"math"
	"math/rand"
	"testing"

	"slopchest/api"
	"slopchest/rate"
)

// bucket is a bucket with its fields in order.
func bucket(most, every, has, at int) api.Bucket {
	return api.Bucket{Most: most, Every: every, Has: has, At: at}
}

// example is the bucket of the examples of the document.
func example() api.Bucket { return bucket(5, 10, 0, 0) }

// notNumbers are numbers that Most, Every and the tokens that are taken cannot be.
func notNumbers() []int {
	return []int{0, -1, api.MaxTokens + 1, -api.MaxTokens, math.MinInt, math.MaxInt, 1 << 32, 1<<32 + 1, api.MaxTick}
}

// someNumbers are numbers that Most, Every and the tokens that are taken can be.
func someNumbers() []int {
	return []int{1, 2, 3, 5, 10, 1000, api.MaxTokens - 1, api.MaxTokens}
}

// notTicks are numbers that are no ticks.
func notTicks() []int {
	return []int{-1, api.MaxTick + 1, -api.MaxTick, math.MinInt, math.MaxInt, math.MinInt + 1, 1 << 41, 1 << 62}
}

// someTicks are ticks in increasing order.
func someTicks() []int {
	return []int{0, 1, 9, 10, 11, 1000, 1 << 20, 1 << 32, api.MaxTick / 2, api.MaxTick - 1, api.MaxTick}
}

// someHas are numbers of tokens that a bucket can have.
func someHas(most int) []int {
	return []int{0, min(1, most), most / 2, most - 1, most}
}

func wantCheck(t *testing.T, b api.Bucket, want api.Errno) {
	t.Helper()
	if err := rate.Check(b); err != want {
		t.Errorf("Check(%v) = %d, want %d", b, err, want)
	}
}

func wantNew(t *testing.T, most, every, at int, want api.Bucket, wantErr api.Errno) {
	t.Helper()
	if got, err := rate.New(most, every, at); got != want || err != wantErr {
		t.Errorf("New(%d, %d, %d) = %v, %d; want %v, %d", most, every, at, got, err, want, wantErr)
	}
}

func wantAdvance(t *testing.T, b api.Bucket, at int, want api.Bucket) {
	t.Helper()
	if got, err := rate.Advance(b, at); got != want || err != api.OK {
		t.Errorf("Advance(%v, %d) = %v, %d; want %v, OK", b, at, got, err, want)
	}
}

func wantTake(t *testing.T, b api.Bucket, at, many int, want api.Bucket, wantTaken bool) {
	t.Helper()
	if got, taken, err := rate.Take(b, at, many); got != want || taken != wantTaken || err != api.OK {
		t.Errorf("Take(%v, %d, %d) = %v, %t, %d; want %v, %t, OK", b, at, many, got, taken, err, want, wantTaken)
	}
}

func wantWhen(t *testing.T, b api.Bucket, at, many, want int) {
	t.Helper()
	if got, err := rate.When(b, at, many); got != want || err != api.OK {
		t.Errorf("When(%v, %d, %d) = %d, %d; want %d, OK", b, at, many, got, err, want)
	}
}

func wantAdvanceError(t *testing.T, b api.Bucket, at int, want api.Errno) {
	t.Helper()
	if got, err := rate.Advance(b, at); got != (api.Bucket{}) || err != want {
		t.Errorf("Advance(%v, %d) = %v, %d; want no bucket, %d", b, at, got, err, want)
	}
}

func wantTakeError(t *testing.T, b api.Bucket, at, many int, want api.Errno) {
	t.Helper()
	if got, taken, err := rate.Take(b, at, many); got != (api.Bucket{}) || taken || err != want {
		t.Errorf("Take(%v, %d, %d) = %v, %t, %d; want no bucket, false, %d", b, at, many, got, taken, err, want)
	}
}

func wantWhenError(t *testing.T, b api.Bucket, at, many int, want api.Errno) {
	t.Helper()
	if got, err := rate.When(b, at, many); got != 0 || err != want {
		t.Errorf("When(%v, %d, %d) = %d, %d; want 0, %d", b, at, many, got, err, want)
	}
}

// badBuckets are buckets that have each of the errors of M1, alone and with others.
func badBuckets() []api.Bucket {
	list := []api.Bucket{{}, bucket(0, 0, 0, -1), bucket(math.MinInt, math.MinInt, math.MinInt, math.MinInt), bucket(math.MaxInt, math.MaxInt, math.MaxInt, math.MaxInt)}
	for _, n := range notNumbers() {
		list = append(list, bucket(n, 10, 0, 0), bucket(n, 10, 1, 5), bucket(n, 10, n, 0), bucket(n, n, 0, 0))
		list = append(list, bucket(5, n, 0, 0), bucket(5, n, 5, 5), bucket(5, n, 6, 0), bucket(5, n, 0, -1))
	}
	for _, most := range someNumbers() {
		for _, has := range []int{-1, -most, most + 1, 2 * most, math.MinInt, math.MaxInt, 1 << 32, math.MinInt + most} {
			list = append(list, bucket(most, 10, has, 0), bucket(most, 1, has, api.MaxTick))
		}
		list = append(list, bucket(most, 10, api.MaxTokens+1, 0))
		for _, at := range notTicks() {
			list = append(list, bucket(most, 10, 0, at), bucket(most, most, most, at))
		}
	}
	return list
}

// goodBuckets are buckets that have no errors.
func goodBuckets() []api.Bucket {
	var list []api.Bucket
	for _, most := range someNumbers() {
		for _, every := range someNumbers() {
			for _, has := range someHas(most) {
				for _, at := range someTicks() {
					list = append(list, bucket(most, every, has, at))
				}
			}
		}
	}
	return list
}

// smallBuckets are buckets of few tokens and few ticks.
func smallBuckets() []api.Bucket {
	var list []api.Bucket
	for most := 1; most <= 5; most++ {
		for every := 1; every <= 5; every++ {
			for has := 0; has <= most; has++ {
				list = append(list, bucket(most, every, has, 0), bucket(most, every, has, 7))
			}
		}
	}
	return list
}

// randomBucket is a bucket with numbers up to the limits or much smaller ones.
func randomBucket(source *rand.Rand) api.Bucket {
	most, every := 1+source.Intn(1<<source.Intn(21)), 1+source.Intn(1<<source.Intn(21))
	return bucket(most, every, source.Intn(most+1), source.Intn(1+1<<source.Intn(40)))
}

// slowAdvance goes on tick by tick.
func slowAdvance(b api.Bucket, at int) api.Bucket {
	for tick := b.At + 1; tick <= at; tick++ {
		if b.Has < b.Most && tick-b.At == b.Every {
			b.Has, b.At = b.Has+1, tick
		}
		if b.Has == b.Most {
			b.At = tick
		}
	}
	return b
}

// slowWhen tries tick by tick; -1 is no tick up to a last one.
func slowWhen(b api.Bucket, at, many, last int) int {
	for tick := at; tick <= last; tick++ {
		if slowAdvance(b, tick).Has >= many {
			return tick
		}
	}
	return -1
}

// M1.

func TestCheckAcceptsBuckets(t *testing.T) {
	for _, b := range goodBuckets() {
		wantCheck(t, b, api.OK)
	}
	wantCheck(t, example(), api.OK)
	wantCheck(t, bucket(1, 1, 0, 0), api.OK)
	wantCheck(t, bucket(api.MaxTokens, api.MaxTokens, api.MaxTokens, api.MaxTick), api.OK)
}

func TestCheckRefusesBadBuckets(t *testing.T) {
	for _, b := range badBuckets() {
		wantCheck(t, b, api.ErrRange)
	}
}

func TestCheckRefusesEachBadNumberInEachGoodBucket(t *testing.T) {
	for _, good := range goodBuckets() {
		for _, n := range notNumbers() {
			b := good
			b.Every = n
			wantCheck(t, b, api.ErrRange)
			b = good
			b.Most = n
			wantCheck(t, b, api.ErrRange)
		}
		for _, at := range notTicks() {
			b := good
			b.At = at
			wantCheck(t, b, api.ErrRange)
		}
		for _, has := range []int{-1, good.Most + 1} {
			b := good
			b.Has = has
			wantCheck(t, b, api.ErrRange)
		}
	}
}

func TestNewReturnsAFullBucket(t *testing.T) {
	wantNew(t, 3, 4, 5, bucket(3, 4, 3, 5), api.OK)
	for _, most := range someNumbers() {
		for _, every := range someNumbers() {
			for _, at := range someTicks() {
				wantNew(t, most, every, at, bucket(most, every, most, at), api.OK)
			}
		}
	}
}

func TestNewRefusesBadNumbers(t *testing.T) {
	for _, n := range notNumbers() {
		for _, other := range append(notNumbers(), someNumbers()...) {
			for _, at := range append(notTicks(), someTicks()...) {
				wantNew(t, n, other, at, api.Bucket{}, api.ErrRange)
				wantNew(t, other, n, at, api.Bucket{}, api.ErrRange)
			}
		}
	}
}

func TestNewRefusesNumbersThatAreNoTicks(t *testing.T) {
	for _, at := range notTicks() {
		for _, most := range someNumbers() {
			for _, every := range someNumbers() {
				wantNew(t, most, every, at, api.Bucket{}, api.ErrRange)
			}
		}
	}
}

// M2.

func TestAdvanceOfTheExample(t *testing.T) {
	b := example()
	wantAdvance(t, b, 25, bucket(5, 10, 2, 20))
	wantAdvance(t, b, 0, bucket(5, 10, 0, 0))
	wantAdvance(t, b, 9, bucket(5, 10, 0, 0))
	wantAdvance(t, b, 10, bucket(5, 10, 1, 10))
	wantAdvance(t, b, 19, bucket(5, 10, 1, 10))
	wantAdvance(t, b, 20, bucket(5, 10, 2, 20))
	wantAdvance(t, b, 49, bucket(5, 10, 4, 40))
	wantAdvance(t, b, 50, bucket(5, 10, 5, 50))
	wantAdvance(t, b, 51, bucket(5, 10, 5, 51))
	wantAdvance(t, b, 60, bucket(5, 10, 5, 60))
}

func TestAdvanceCountsFromTheTickOfTheBucket(t *testing.T) {
	b := bucket(5, 10, 1, 7)
	wantAdvance(t, b, 7, b)
	wantAdvance(t, b, 10, b)
	wantAdvance(t, b, 16, b)
	wantAdvance(t, b, 17, bucket(5, 10, 2, 17))
	wantAdvance(t, b, 46, bucket(5, 10, 4, 37))
	wantAdvance(t, b, 47, bucket(5, 10, 5, 47))
	wantAdvance(t, b, 48, bucket(5, 10, 5, 48))
}

func TestAFullBucketGoesOnWithItsTick(t *testing.T) {
	for _, most := range someNumbers() {
		for _, every := range someNumbers() {
			for i, from := range someTicks() {
				for _, at := range someTicks()[i:] {
					wantAdvance(t, bucket(most, every, most, from), at, bucket(most, every, most, at))
				}
			}
		}
	}
}

func TestAdvanceToTheSameTickChangesNothing(t *testing.T) {
	for _, b := range goodBuckets() {
		wantAdvance(t, b, b.At, b)
	}
}

func TestAdvanceAtTheLimits(t *testing.T) {
	const most, last = api.MaxTokens, api.MaxTick
	// Most * Every is MaxTick.
	wantAdvance(t, bucket(most, most, 0, 0), last, bucket(most, most, most, last))
	wantAdvance(t, bucket(most, most, 0, 0), last-1, bucket(most, most, most-1, last-most))
	wantAdvance(t, bucket(most, most, 0, 1), last, bucket(most, most, most-1, last-most+1))
	wantAdvance(t, bucket(most, most, most-1, last-most), last, bucket(most, most, most, last))
	wantAdvance(t, bucket(most, most, most-1, last-most+1), last, bucket(most, most, most-1, last-most+1))
	wantAdvance(t, bucket(most, 1, 0, 0), most-1, bucket(most, 1, most-1, most-1))
	wantAdvance(t, bucket(most, 1, 0, 0), most, bucket(most, 1, most, most))
	wantAdvance(t, bucket(most, 1, 0, 0), last, bucket(most, 1, most, last))
	wantAdvance(t, bucket(1, most, 0, 0), most-1, bucket(1, most, 0, 0))
	wantAdvance(t, bucket(1, most, 0, 0), most, bucket(1, most, 1, most))
	wantAdvance(t, bucket(1, 1, 0, 0), last, bucket(1, 1, 1, last))
	wantAdvance(t, bucket(1, 1, 0, last), last, bucket(1, 1, 0, last))
}

func TestAdvanceFollowsTheDocumentTickByTick(t *testing.T) {
	for _, b := range smallBuckets() {
		for at := b.At; at <= b.At+40; at++ {
			wantAdvance(t, b, at, slowAdvance(b, at))
		}
	}
	source := rand.New(rand.NewSource(1))
	for range 2000 {
		b := bucket(1+source.Intn(50), 1+source.Intn(50), 0, source.Intn(api.MaxTick-5000))
		b.Has = source.Intn(b.Most + 1)
		at := b.At + source.Intn(1+source.Intn(5000))
		wantAdvance(t, b, at, slowAdvance(b, at))
	}
}

func TestAdvanceInTwoStepsIsTheSameAsInOne(t *testing.T) {
	source := rand.New(rand.NewSource(2))
	for range 100000 {
		b := randomBucket(source)
		between := b.At + source.Intn(1+min(api.MaxTick-b.At, 1<<source.Intn(40)))
		at := between + source.Intn(1+min(api.MaxTick-between, 1<<source.Intn(40)))
		first, err := rate.Advance(b, between)
		if err != api.OK {
			t.Fatalf("Advance(%v, %d): error %d", b, between, err)
		}
		want, _ := rate.Advance(b, at)
		wantAdvance(t, first, at, want)
	}
}

func TestAdvanceKeepsABucketValid(t *testing.T) {
	for _, b := range goodBuckets() {
		for _, at := range someTicks() {
			if at < b.At {
				continue
			}
			got, err := rate.Advance(b, at)
			if err != api.OK || rate.Check(got) != api.OK || got.Most != b.Most || got.Every != b.Every || got.Has < b.Has || got.At > at || got.At < b.At {
				t.Errorf("Advance(%v, %d) = %v, %d", b, at, got, err)
			}
			if got.Has < got.Most && at-got.At >= got.Every {
				t.Errorf("Advance(%v, %d) = %v: a token is missing", b, at, got)
			}
		}
	}
}

func TestAdvanceRefusesBadBucketsFirst(t *testing.T) {
	for _, b := range badBuckets() {
		for _, at := range append(notTicks(), someTicks()...) {
			wantAdvanceError(t, b, at, api.ErrRange)
		}
	}
}

func TestAdvanceRefusesNumbersThatAreNoTicks(t *testing.T) {
	for _, b := range goodBuckets() {
		// Some of them are less than At, too.
		for _, at := range notTicks() {
			wantAdvanceError(t, b, at, api.ErrRange)
		}
	}
}

func TestAdvanceRefusesEarlierTicks(t *testing.T) {
	for _, b := range goodBuckets() {
		for _, at := range append(someTicks(), b.At-1) {
			if at >= 0 && at < b.At {
				wantAdvanceError(t, b, at, api.ErrState)
			}
		}
	}
}

// M3, Take.

func TestTakeOfTheExample(t *testing.T) {
	b := example()
	wantTake(t, b, 30, 3, bucket(5, 10, 0, 30), true)
	wantTake(t, b, 29, 3, bucket(5, 10, 2, 20), false)
	wantTake(t, b, 25, 2, bucket(5, 10, 0, 20), true)
	wantTake(t, b, 25, 1, bucket(5, 10, 1, 20), true)
	wantTake(t, b, 25, 3, bucket(5, 10, 2, 20), false)
	wantTake(t, b, 0, 1, b, false)
	wantTake(t, b, 1000, 5, bucket(5, 10, 0, 1000), true)
	wantTake(t, b, 1000, 6, bucket(5, 10, 5, 1000), false)
	wantTake(t, b, 1000, api.MaxTokens, bucket(5, 10, 5, 1000), false)
}

func TestTakeKeepsTheTicksSinceTheLastToken(t *testing.T) {
	// Four tokens came until tick 40; the next one comes at 50, whether one is taken at 49 or not.
	b, _, _ := rate.Take(example(), 49, 1)
	wantAdvance(t, b, 50, bucket(5, 10, 4, 50))
	// At tick 59 the bucket is full, so that the next token comes ten ticks after one is taken.
	b, _, _ = rate.Take(example(), 59, 1)
	wantAdvance(t, b, 68, bucket(5, 10, 4, 59))
	wantAdvance(t, b, 69, bucket(5, 10, 5, 69))
}

func TestTakeAtTheLimits(t *testing.T) {
	const most, last = api.MaxTokens, api.MaxTick
	wantTake(t, bucket(most, most, 0, 0), last, most, bucket(most, most, 0, last), true)
	wantTake(t, bucket(most, most, 0, 0), last-1, most, bucket(most, most, most-1, last-most), false)
	wantTake(t, bucket(most, most, 0, 0), last-1, most-1, bucket(most, most, 0, last-most), true)
	wantTake(t, bucket(most, 1, most, last), last, most, bucket(most, 1, 0, last), true)
	wantTake(t, bucket(1, 1, 1, last), last, 1, bucket(1, 1, 0, last), true)
	wantTake(t, bucket(1, 1, 0, last), last, 1, bucket(1, 1, 0, last), false)
	wantTake(t, bucket(1, 1, 0, 0), last, most, bucket(1, 1, 1, last), false)
}

func TestTakeFollowsTheDocument(t *testing.T) {
	for _, b := range smallBuckets() {
		for at := b.At; at <= b.At+30; at++ {
			for many := 1; many <= 7; many++ {
				want := slowAdvance(b, at)
				enough := want.Has >= many
				if enough {
					want.Has -= many
				}
				wantTake(t, b, at, many, want, enough)
			}
		}
	}
}

// taking is what was taken at a tick from a bucket.
type taking struct {
	before api.Bucket
	at     int
	taken  int
}

// takings takes tokens at random ticks.
func takings(t *testing.T, source *rand.Rand) []taking {
	t.Helper()
	b, at := bucket(1+source.Intn(9), 1+source.Intn(9), 0, source.Intn(50)), 0
	b.Has, at = source.Intn(b.Most+1), b.At
	var list []taking
	for range 60 {
		at += source.Intn(12)
		many := 1 + source.Intn(b.Most)
		now, err := rate.Advance(b, at)
		next, taken, err2 := rate.Take(b, at, many)
		if err != api.OK || err2 != api.OK {
			t.Fatalf("bucket %v, tick %d, %d tokens: errors %d, %d", b, at, many, err, err2)
		}
		if !taken {
			many = 0
		}
		list = append(list, taking{now, at, many})
		b = next
	}
	return list
}

func TestInNoIntervalMoreIsTakenThanWasThereAndReceived(t *testing.T) {
	source := rand.New(rand.NewSource(3))
	for range 300 {
		list := takings(t, source)
		for i, first := range list {
			sum := 0
			for _, last := range list[i:] {
				sum += last.taken
				b := first.before
				if most := b.Has + (last.at-b.At)/b.Every; sum > most {
					t.Errorf("from %v, at tick %d, to tick %d %d tokens were taken, more than %d", b, first.at, last.at, sum, most)
				}
			}
		}
	}
}

func TestTakeRefusesBadBucketsFirst(t *testing.T) {
	for _, b := range badBuckets() {
		for _, at := range append(notTicks(), someTicks()...) {
			for _, many := range append(notNumbers(), 1, api.MaxTokens) {
				wantTakeError(t, b, at, many, api.ErrRange)
			}
		}
	}
}

func TestTakeRefusesNumbersThatAreNoTicks(t *testing.T) {
	for _, b := range goodBuckets() {
		for _, at := range notTicks() {
			for _, many := range []int{0, 1, api.MaxTokens, math.MaxInt} {
				wantTakeError(t, b, at, many, api.ErrRange)
			}
		}
	}
}

func TestTakeRefusesEarlierTicksBeforeBadNumbers(t *testing.T) {
	for _, b := range goodBuckets() {
		for _, at := range append(someTicks(), b.At-1) {
			if at < 0 || at >= b.At {
				continue
			}
			for _, many := range append(notNumbers(), 1, api.MaxTokens) {
				wantTakeError(t, b, at, many, api.ErrState)
			}
		}
	}
}

func TestTakeRefusesBadNumbers(t *testing.T) {
	for _, b := range goodBuckets() {
		for _, many := range notNumbers() {
			wantTakeError(t, b, b.At, many, api.ErrRange)
			wantTakeError(t, b, api.MaxTick, many, api.ErrRange)
		}
	}
}

// M3, When.

func TestWhenOfTheExample(t *testing.T) {
	b := example()
	wantWhen(t, b, 0, 3, 30)
	wantWhen(t, b, 25, 3, 30)
	wantWhen(t, b, 29, 3, 30)
	wantWhen(t, b, 30, 3, 30)
	wantWhen(t, b, 31, 3, 31)
	wantWhen(t, b, 35, 3, 35)
	wantWhen(t, b, 0, 1, 10)
	wantWhen(t, b, 0, 5, 50)
	wantWhen(t, b, 50, 5, 50)
	wantWhen(t, b, 57, 5, 57)
	wantWhenError(t, b, 0, 6, api.ErrNone)
	wantWhenError(t, b, 1000, 6, api.ErrNone)
	wantWhenError(t, b, 0, api.MaxTokens, api.ErrNone)
}

func TestWhenOfABucketThatHasEnoughIsTheTickItself(t *testing.T) {
	for _, b := range goodBuckets() {
		for _, at := range someTicks() {
			if at >= b.At && b.Has > 0 {
				wantWhen(t, b, at, 1, at)
				wantWhen(t, b, at, b.Has, at)
			}
		}
	}
}

func TestWhenAtTheLimits(t *testing.T) {
	const most, last = api.MaxTokens, api.MaxTick
	// Most * Every is MaxTick.
	wantWhen(t, bucket(most, most, 0, 0), 0, most, last)
	wantWhen(t, bucket(most, most, 0, 0), last-1, most, last)
	wantWhen(t, bucket(most, most, 0, 0), last, most, last)
	wantWhenError(t, bucket(most, most, 0, 1), 1, most, api.ErrNone)
	wantWhenError(t, bucket(most, most, 0, 1), last, most, api.ErrNone)
	wantWhen(t, bucket(most, most, 0, 1), 1, most-1, last-most+1)
	wantWhen(t, bucket(most, most, 1, 1), 1, most, last-most+1)
	wantWhen(t, bucket(1, most, 0, last-most), last-most, 1, last)
	wantWhenError(t, bucket(1, most, 0, last-most+1), last-most+1, 1, api.ErrNone)
	wantWhenError(t, bucket(1, most, 0, last), last, 1, api.ErrNone)
	wantWhenError(t, bucket(1, 1, 0, last), last, 1, api.ErrNone)
	wantWhen(t, bucket(1, 1, 0, last-1), last-1, 1, last)
	wantWhen(t, bucket(1, 1, 1, last), last, 1, last)
	wantWhenError(t, bucket(most, most, 0, last), last, most, api.ErrNone)
	wantWhenError(t, bucket(most-1, 1, 0, 0), 0, most, api.ErrNone)
}

func TestWhenFollowsTheDocumentTickByTick(t *testing.T) {
	for _, b := range smallBuckets() {
		for at := b.At; at <= b.At+12; at++ {
			for many := 1; many <= b.Most; many++ {
				wantWhen(t, b, at, many, slowWhen(b, at, many, math.MaxInt))
			}
			for many := b.Most + 1; many <= 8; many++ {
				wantWhenError(t, b, at, many, api.ErrNone)
			}
		}
	}
}

func TestWhenDoesNotGoBeyondTheLastTick(t *testing.T) {
	for _, b := range smallBuckets() {
		b.At += api.MaxTick - 14
		for at := b.At; at <= api.MaxTick; at++ {
			for many := 1; many <= b.Most; many++ {
				if want := slowWhen(b, at, many, api.MaxTick); want >= 0 {
					wantWhen(t, b, at, many, want)
				} else {
					wantWhenError(t, b, at, many, api.ErrNone)
				}
			}
		}
	}
}

func TestWhenIsTheFirstTickAtWhichTakeSucceeds(t *testing.T) {
	source := rand.New(rand.NewSource(4))
	for range 100000 {
		b := randomBucket(source)
		at := b.At + source.Intn(1+min(api.MaxTick-b.At, 1<<source.Intn(40)))
		many := 1 + source.Intn(b.Most)
		tick, err := rate.When(b, at, many)
		if err == api.ErrNone {
			if _, taken, err := rate.Take(b, api.MaxTick, many); taken || err != api.OK {
				t.Errorf("When(%v, %d, %d) finds no tick, but at the last one Take returns %t, %d", b, at, many, taken, err)
			}
			continue
		}
		if _, taken, errTake := rate.Take(b, tick, many); !taken || tick < at || err != api.OK || errTake != api.OK {
			t.Errorf("When(%v, %d, %d) = %d, %d; then Take returns %t, %d", b, at, many, tick, err, taken, errTake)
		}
		if tick == at {
			continue
		}
		if _, taken, errTake := rate.Take(b, tick-1, many); taken || errTake != api.OK {
			t.Errorf("When(%v, %d, %d) = %d; a tick before Take returns %t, %d", b, at, many, tick, taken, errTake)
		}
	}
}

func TestWhenRefusesBadBucketsFirst(t *testing.T) {
	for _, b := range badBuckets() {
		for _, at := range append(notTicks(), someTicks()...) {
			for _, many := range append(notNumbers(), 1, api.MaxTokens) {
				wantWhenError(t, b, at, many, api.ErrRange)
			}
		}
	}
}

func TestWhenRefusesNumbersThatAreNoTicks(t *testing.T) {
	for _, b := range goodBuckets() {
		for _, at := range notTicks() {
			for _, many := range []int{0, 1, b.Most, api.MaxTokens, math.MaxInt} {
				wantWhenError(t, b, at, many, api.ErrRange)
			}
		}
	}
}

func TestWhenRefusesEarlierTicksBeforeOtherNumbers(t *testing.T) {
	for _, b := range goodBuckets() {
		for _, at := range append(someTicks(), b.At-1) {
			if at < 0 || at >= b.At {
				continue
			}
			for _, many := range append(notNumbers(), 1, b.Most, api.MaxTokens) {
				wantWhenError(t, b, at, many, api.ErrState)
			}
		}
	}
}

func TestWhenRefusesBadNumbersBeforeTooManyTokens(t *testing.T) {
	for _, b := range goodBuckets() {
		for _, many := range notNumbers() {
			wantWhenError(t, b, b.At, many, api.ErrRange)
			wantWhenError(t, b, api.MaxTick, many, api.ErrRange)
		}
	}
}

func TestWhenFindsNoTickForMoreTokensThanABucketHolds(t *testing.T) {
	for _, b := range goodBuckets() {
		for _, many := range []int{b.Most + 1, 2 * b.Most, api.MaxTokens} {
			if many > b.Most && many <= api.MaxTokens {
				wantWhenError(t, b, b.At, many, api.ErrNone)
				wantWhenError(t, b, api.MaxTick, many, api.ErrNone)
			}
		}
	}
}

// P2: a bucket is a value, but a call with a variable does not change it.
func TestBucketsAreNotChanged(t *testing.T) {
	b := bucket(5, 10, 3, 4)
	before := fmt.Sprint(b)
	rate.Check(b)
	rate.Advance(b, 100)
	rate.Take(b, 100, 2)
	rate.When(b, 4, 5)
	if after := fmt.Sprint(b); after != before {
		t.Errorf("the bucket was %s, and is now %s", before, after)
	}
}
