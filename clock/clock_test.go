package clock_test

import (
	"fmt"
	"math"
	"math/rand"
	"slices"
	"testing"

	"slopchest/api"
	"slopchest/clock"
	"slopchest/lru"
)

// yes and no are frames that are used and not used.
func yes(key int) api.Frame { return api.Frame{Key: key, Used: true} }
func no(key int) api.Frame  { return api.Frame{Key: key} }

// of is the clock with these frames.
func of(room, hand int, frames ...api.Frame) api.Clock {
	return api.Clock{Room: room, Hand: hand, Frames: frames}
}

// frames are frames with the keys 0 to many - 1, all used or all not used.
func frames(many int, used bool) []api.Frame {
	list := make([]api.Frame, many)
	for i := range list {
		list[i] = api.Frame{Key: i, Used: used}
	}
	return list
}

// upTo are the keys 0 to many - 1.
func upTo(many int) []int {
	keys := make([]int, many)
	for i := range keys {
		keys[i] = i
	}
	return keys
}

func equal(a, b api.Clock) bool {
	return a.Room == b.Room && a.Hand == b.Hand && slices.Equal(a.Frames, b.Frames)
}

// notKeys are numbers that are not keys.
func notKeys() []int {
	return []int{-1, api.MaxKey + 1, -api.MaxKey, math.MinInt, math.MaxInt, 1 << 32, 1<<32 + 1}
}

// notRooms are numbers that are not the room of a clock.
func notRooms() []int {
	return []int{0, -1, api.MaxRoom + 1, -api.MaxRoom, math.MinInt, math.MaxInt, 1 << 32, 1<<32 + 1}
}

func wantAccess(t *testing.T, c api.Clock, key int, want api.Clock, wantHit bool, wantEvicted int) {
	t.Helper()
	got, hit, evicted, err := clock.Access(c, key)
	if !equal(got, want) || hit != wantHit || evicted != wantEvicted || err != api.OK {
		t.Errorf("Access(%v, %d) = %v, %t, %d, %d; want %v, %t, %d, OK", c, key, got, hit, evicted, err, want, wantHit, wantEvicted)
	}
}

func wantAccessError(t *testing.T, what string, c api.Clock, key int, want api.Errno) {
	t.Helper()
	got, hit, evicted, err := clock.Access(c, key)
	if !equal(got, api.Clock{}) || hit || evicted != 0 || err != want {
		t.Errorf("Access of %d, %s: %v, %t, %d, %d; want zero values, %d", key, what, got, hit, evicted, err, want)
	}
}

func wantRun(t *testing.T, c api.Clock, trace []int, want api.Clock, wantHits int) {
	t.Helper()
	got, hits, err := clock.Run(c, trace)
	if !equal(got, want) || hits != wantHits || err != api.OK {
		t.Errorf("Run(%v, %v) = %v, %d, %d; want %v, %d, OK", c, trace, got, hits, err, want, wantHits)
	}
}

func wantRunError(t *testing.T, what string, c api.Clock, trace []int, want api.Errno) {
	t.Helper()
	got, hits, err := clock.Run(c, trace)
	if !equal(got, api.Clock{}) || hits != 0 || err != want {
		t.Errorf("Run, %s: %v, %d, %d; want zero values, %d", what, got, hits, err, want)
	}
}

func wantClear(t *testing.T, c api.Clock, want api.Clock) {
	t.Helper()
	got, err := clock.Clear(c)
	if !equal(got, want) || err != api.OK {
		t.Errorf("Clear(%v) = %v, %d; want %v, OK", c, got, err, want)
	}
}

// badClock is a clock that Check refuses.
type badClock struct {
	name string
	c    api.Clock
	want api.Errno
}

// badClocks are clocks with each of the errors of Check, alone and with others.
func badClocks() []badClock {
	list := []badClock{
		{"zero", api.Clock{}, api.ErrRange},
		{"a frame too many", of(1, 0, no(1), no(2)), api.ErrMany},
		{"a frame too many of the greatest room", of(api.MaxRoom, 0, frames(api.MaxRoom+1, false)...), api.ErrMany},
		{"very many frames", of(3, 0, frames(1<<16, true)...), api.ErrMany},
		{"twice", of(2, 0, no(1), no(1)), api.ErrTwice},
		{"twice, one of them used", of(2, 0, no(1), yes(1)), api.ErrTwice},
		{"twice, both used", of(2, 1, yes(1), yes(1)), api.ErrTwice},
		{"twice, with another between", of(3, 0, no(1), no(2), no(1)), api.ErrTwice},
		{"twice at the end", of(4, 0, no(2), no(1), no(1)), api.ErrTwice},
		{"0 twice", of(3, 0, no(0), no(1), no(0)), api.ErrTwice},
		{"the greatest key twice", of(2, 0, no(api.MaxKey), no(api.MaxKey)), api.ErrTwice},
		// The number of frames comes before the frames.
		{"many before twice", of(1, 0, no(1), no(1)), api.ErrMany},
		{"many before a key out of range", of(1, 0, no(-1), no(2)), api.ErrMany},
		{"many before a key out of range behind the room", of(1, 0, no(1), no(-1)), api.ErrMany},
		{"many before the hand", of(1, 2, no(1), no(2)), api.ErrMany},
		// Of one frame the first error counts, of several frames the first one.
		{"range before twice", of(2, 0, no(-1), no(-1)), api.ErrRange},
		{"twice, then range", of(3, 0, no(1), no(1), no(-1)), api.ErrTwice},
		{"range, then twice", of(3, 0, no(1), no(-1), no(1)), api.ErrRange},
		{"range, then twice behind it", of(3, 0, no(api.MaxKey+1), no(1), no(1)), api.ErrRange},
		// The hand comes last.
		{"range before the hand", of(3, -1, no(1), no(-1)), api.ErrRange},
		{"twice before the hand", of(3, 2, no(1), no(1)), api.ErrTwice},
	}
	for _, room := range notRooms() {
		list = append(list, badClock{fmt.Sprint("room ", room), of(room, 0), api.ErrRange},
			badClock{fmt.Sprint("one frame, room ", room), of(room, 0, no(1)), api.ErrRange},
			badClock{fmt.Sprint("room before many, ", room), of(room, 0, frames(api.MaxRoom+5, false)...), api.ErrRange},
			badClock{fmt.Sprint("room before twice, ", room), of(room, 0, no(1), no(1)), api.ErrRange},
			badClock{fmt.Sprint("room before the hand, ", room), of(room, 1, no(1)), api.ErrRange})
	}
	for _, key := range notKeys() {
		for at := range 4 {
			keys := []api.Frame{no(5), yes(6), no(7), yes(8)}
			keys[at].Key = key
			list = append(list, badClock{fmt.Sprintf("key %d at %d", key, at), of(5, at, keys...), api.ErrRange})
		}
	}
	for _, room := range []int{1, 2, 3, api.MaxRoom} {
		for many := range room + 1 {
			// The hand may stand neither behind the frames nor at an index that has no frame yet.
			for _, hand := range []int{-1, max(many, 1), many + 1, room, room + 1, -room, math.MinInt, math.MaxInt, 1 << 32} {
				if hand >= 0 && hand < max(many, 1) {
					continue
				}
				list = append(list, badClock{fmt.Sprintf("hand %d, %d frames, room %d", hand, many, room), of(room, hand, frames(many, many%2 == 0)...), api.ErrState})
			}
		}
	}
	return list
}

// badTraces are traces that lru.CheckTrace refuses.
func badTraces() [][]int {
	list := [][]int{upTo(api.MaxTrace + 1), make([]int, api.MaxTrace+1), make([]int, 1<<16)}
	for _, key := range notKeys() {
		for _, at := range []int{0, 1, 100, api.MaxTrace - 1} {
			trace := upTo(api.MaxTrace)
			trace[at] = key
			list = append(list, trace, append(slices.Clone(trace), 1))
		}
		list = append(list, []int{key})
	}
	return list
}

// goodClocks are clocks that Check accepts, for calls that fail for other reasons.
func goodClocks() []api.Clock {
	return []api.Clock{of(1, 0), of(1, 0, yes(1)), of(3, 1, no(1), yes(2)), of(api.MaxRoom, api.MaxRoom-1, frames(api.MaxRoom, true)...)}
}

// randomTrace returns keys below kinds, so that few kinds have many hits.
func randomTrace(source *rand.Rand, many, kinds int) []int {
	trace := make([]int, many)
	for i := range trace {
		trace[i] = source.Intn(kinds)
	}
	return trace
}

// randomClock returns a clock with keys below kinds, any of them used, and the hand anywhere.
func randomClock(source *rand.Rand, kinds int) api.Clock {
	c := of(1+source.Intn(api.MaxRoom), 0)
	for _, key := range source.Perm(kinds)[:source.Intn(min(c.Room, kinds)+1)] {
		c.Frames = append(c.Frames, api.Frame{Key: key, Used: source.Intn(3) > 0})
	}
	if len(c.Frames) > 0 {
		c.Hand = source.Intn(len(c.Frames))
	}
	return c
}

// place is a frame that remembers its index.
type place struct {
	at    int
	frame api.Frame
}

// queue is a clock as a queue, which begins at the hand: a used frame that
// comes to its front is put behind its end, and no hand moves.
type queue struct {
	room int
	list []place
}

func newQueue(c api.Clock) queue {
	q := queue{room: c.Room}
	for i := range c.Frames {
		at := (c.Hand + i) % len(c.Frames)
		q.list = append(q.list, place{at, c.Frames[at]})
	}
	return q
}

// clock returns the frames by their indices.
func (q queue) clock() api.Clock {
	c := of(q.room, 0, make([]api.Frame, len(q.list))...)
	for _, p := range q.list {
		c.Frames[p.at] = p.frame
	}
	if len(q.list) > 0 {
		c.Hand = q.list[0].at
	}
	return c
}

// access follows the document.
func (q *queue) access(key int) (hit bool, evicted int) {
	for i := range q.list {
		if q.list[i].frame.Key == key {
			q.list[i].frame.Used = true
			return true, -1
		}
	}
	if many := len(q.list); many < q.room {
		// The last frame comes just before the first one, wherever the hand is.
		before := many
		for i := 1; i < many; i++ {
			if q.list[i].at == 0 {
				before = i
			}
		}
		q.list = slices.Insert(q.list, before, place{many, no(key)})
		return false, -1
	}
	for q.list[0].frame.Used {
		q.list = append(q.list[1:], place{q.list[0].at, no(q.list[0].frame.Key)})
	}
	first := q.list[0]
	q.list = append(q.list[1:], place{first.at, no(key)})
	return false, first.frame.Key
}

// G1.

func TestCheckRefuses(t *testing.T) {
	for _, b := range badClocks() {
		if got := clock.Check(b.c); got != b.want {
			t.Errorf("Check, %s: %d, want %d", b.name, got, b.want)
		}
	}
}

func TestCheckAccepts(t *testing.T) {
	list := []api.Clock{of(1, 0), of(1, 0, []api.Frame{}...), of(1, 0, no(0)), of(1, 0, yes(api.MaxKey)), of(2, 1, no(api.MaxKey), yes(0)), of(3, 1, yes(2), no(1))}
	for room := 1; room <= api.MaxRoom; room++ {
		list = append(list, of(room, 0))
		for many := range room + 1 {
			for hand := range many {
				list = append(list, of(room, hand, frames(many, false)...), of(room, hand, frames(many, true)...))
			}
		}
	}
	for _, c := range list {
		if got := clock.Check(c); got != api.OK {
			t.Errorf("Check(%v) = %d, want OK", c, got)
		}
	}
}

func TestCheckFindsAKeyTwiceAtAnyTwoIndices(t *testing.T) {
	for second := range api.MaxRoom {
		for first := range second {
			list := frames(api.MaxRoom, false)
			list[second] = yes(first)
			if got := clock.Check(of(api.MaxRoom, 0, list...)); got != api.ErrTwice {
				t.Errorf("Check, the same key at %d and %d: %d, want %d", first, second, got, api.ErrTwice)
			}
		}
	}
}

// G2.

func TestAccessOfTheExample(t *testing.T) {
	wantAccess(t, of(2, 0, yes(1), no(2)), 3, of(2, 0, no(1), no(3)), false, 2)
}

func TestAccessOfACachedKeySetsUsed(t *testing.T) {
	for _, room := range []int{3, 4, api.MaxRoom} {
		for hand := range 3 {
			wantAccess(t, of(room, hand, no(7), yes(0), no(9)), 7, of(room, hand, yes(7), yes(0), no(9)), true, -1)
			wantAccess(t, of(room, hand, no(7), yes(0), no(9)), 0, of(room, hand, no(7), yes(0), no(9)), true, -1)
			wantAccess(t, of(room, hand, no(7), yes(0), no(9)), 9, of(room, hand, no(7), yes(0), yes(9)), true, -1)
		}
	}
	wantAccess(t, of(1, 0, no(api.MaxKey)), api.MaxKey, of(1, 0, yes(api.MaxKey)), true, -1)
}

func TestAccessAppendsWhileThereIsRoom(t *testing.T) {
	wantAccess(t, of(1, 0), 0, of(1, 0, no(0)), false, -1)
	wantAccess(t, of(2, 0, []api.Frame{}...), api.MaxKey, of(2, 0, no(api.MaxKey)), false, -1)
	// Neither the hand nor the frames that are there change.
	for hand := range 2 {
		wantAccess(t, of(3, hand, yes(1), no(2)), 3, of(3, hand, yes(1), no(2), no(3)), false, -1)
		wantAccess(t, of(api.MaxRoom, hand, yes(1), yes(2)), 0, of(api.MaxRoom, hand, yes(1), yes(2), no(0)), false, -1)
	}
	c := of(api.MaxRoom, 0)
	for key := range api.MaxRoom {
		next := of(api.MaxRoom, 0, frames(key+1, false)...)
		wantAccess(t, c, key, next, false, -1)
		c = next
	}
}

func TestAccessReplacesTheFrameAtTheHand(t *testing.T) {
	wantAccess(t, of(1, 0, no(5)), 6, of(1, 0, no(6)), false, 5)
	wantAccess(t, of(1, 0, yes(5)), 6, of(1, 0, no(6)), false, 5)
	wantAccess(t, of(3, 0, no(1), yes(2), yes(3)), 4, of(3, 1, no(4), yes(2), yes(3)), false, 1)
	wantAccess(t, of(3, 1, yes(1), no(2), yes(3)), 4, of(3, 2, yes(1), no(4), yes(3)), false, 2)
	// After the last frame the hand moves to the first one.
	wantAccess(t, of(3, 2, yes(1), no(2), no(3)), 4, of(3, 0, yes(1), no(2), no(4)), false, 3)
	// An evicted key 0 is not the same as none.
	wantAccess(t, of(2, 1, no(1), no(0)), 2, of(2, 0, no(1), no(2)), false, 0)
	wantAccess(t, of(2, 0, no(api.MaxKey), no(1)), 0, of(2, 1, no(0), no(1)), false, api.MaxKey)
}

func TestAccessPassesUsedFrames(t *testing.T) {
	wantAccess(t, of(4, 0, yes(1), yes(2), no(3), yes(4)), 5, of(4, 3, no(1), no(2), no(5), yes(4)), false, 3)
	wantAccess(t, of(4, 3, yes(1), no(2), yes(3), yes(4)), 5, of(4, 2, no(1), no(5), yes(3), no(4)), false, 2)
	wantAccess(t, of(4, 1, no(1), yes(2), yes(3), yes(4)), 5, of(4, 1, no(5), no(2), no(3), no(4)), false, 1)
}

func TestAccessTurnsOnceIfAllFramesAreUsed(t *testing.T) {
	for room := 1; room <= api.MaxRoom; room++ {
		for hand := range room {
			want := frames(room, false)
			want[hand] = no(1000)
			wantAccess(t, of(room, hand, frames(room, true)...), 1000, of(room, (hand+1)%room, want...), false, hand)
			wantAccess(t, of(room, hand, frames(room, false)...), 1000, of(room, (hand+1)%room, want...), false, hand)
		}
	}
}

func TestAccessRefusesNumbersThatAreNotKeys(t *testing.T) {
	for _, c := range goodClocks() {
		for _, key := range notKeys() {
			wantAccessError(t, fmt.Sprint(c), c, key, api.ErrRange)
		}
	}
}

func TestAccessFirstReturnsTheErrorOfCheck(t *testing.T) {
	for _, b := range badClocks() {
		for _, key := range append(notKeys(), 0, 1, 2, api.MaxKey) {
			wantAccessError(t, b.name, b.c, key, b.want)
		}
	}
}

func TestAccessFollowsTheDocument(t *testing.T) {
	source := rand.New(rand.NewSource(1))
	for range 400 {
		kinds := 1 + source.Intn(2*api.MaxRoom)
		c := randomClock(source, kinds)
		q := newQueue(c)
		for _, key := range randomTrace(source, 100, kinds) {
			hit, evicted := q.access(key)
			want := q.clock()
			wantAccess(t, c, key, want, hit, evicted)
			if err := clock.Check(want); err != api.OK {
				t.Errorf("Check of the result of Access = %d, want OK", err)
			}
			c = want
		}
	}
}

// Run, which has no number in the document.

func TestRunOfKnownTraces(t *testing.T) {
	wantRun(t, of(2, 0), []int{1, 2, 1, 3, 1, 2}, of(2, 0, no(1), no(2)), 2)
	wantRun(t, of(1, 0), []int{1, 1, 2, 1, 1}, of(1, 0, yes(1)), 2)
	wantRun(t, of(3, 0), []int{1, 2, 3, 4, 1, 2, 3, 4}, of(3, 2, no(3), no(4), no(2)), 0)
	wantRun(t, of(4, 0), []int{1, 2, 3, 4, 1, 2, 3, 4}, of(4, 0, yes(1), yes(2), yes(3), yes(4)), 4)
	// The keys that were there before count as hits.
	wantRun(t, of(3, 1, no(5), no(6), no(7)), []int{7, 6, 5}, of(3, 1, yes(5), yes(6), yes(7)), 3)
	// 0 passes 6 and evicts 7, which evicts 5, which evicts 6.
	wantRun(t, of(3, 1, no(5), yes(6), no(7)), []int{0, 7, 5}, of(3, 2, no(7), no(5), no(0)), 0)
	wantRun(t, of(3, 1, no(5), yes(6), no(7)), []int{0, 5, 7}, of(3, 2, no(5), no(7), no(0)), 1)
	wantRun(t, of(1, 0, no(0)), make([]int, api.MaxTrace), of(1, 0, yes(0)), api.MaxTrace)
	wantRun(t, of(1, 0), slices.Repeat([]int{api.MaxKey}, api.MaxTrace), of(1, 0, yes(api.MaxKey)), api.MaxTrace-1)
	var last []api.Frame
	for _, key := range upTo(api.MaxTrace)[api.MaxTrace-api.MaxRoom:] {
		last = append(last, no(key))
	}
	wantRun(t, of(api.MaxRoom, 0), upTo(api.MaxTrace), of(api.MaxRoom, 0, last...), 0)
}

func TestRunOfTheEmptyTraceReturnsTheClock(t *testing.T) {
	for _, trace := range [][]int{nil, {}} {
		for _, c := range goodClocks() {
			wantRun(t, c, trace, c, 0)
		}
	}
}

func TestRunFollowsTheDocument(t *testing.T) {
	source := rand.New(rand.NewSource(2))
	for range 1000 {
		kinds := 1 + source.Intn(2*api.MaxRoom)
		c := randomClock(source, kinds)
		trace := randomTrace(source, source.Intn(api.MaxTrace+1), kinds)
		q, hits := newQueue(c), 0
		for _, key := range trace {
			if hit, _ := q.access(key); hit {
				hits++
			}
		}
		wantRun(t, c, trace, q.clock(), hits)
	}
}

func TestRunIsOneAccessAfterAnother(t *testing.T) {
	source := rand.New(rand.NewSource(3))
	for range 200 {
		kinds := 1 + source.Intn(2*api.MaxRoom)
		c := randomClock(source, kinds)
		trace := randomTrace(source, source.Intn(api.MaxTrace+1), kinds)
		got, hits := c, 0
		for _, key := range trace {
			next, hit, _, err := clock.Access(got, key)
			if err != api.OK {
				t.Fatalf("Access: error %d", err)
			}
			got = next
			if hit {
				hits++
			}
		}
		wantRun(t, c, trace, got, hits)
	}
}

func TestRunRefusesBadTraces(t *testing.T) {
	for _, trace := range badTraces() {
		want := lru.CheckTrace(trace)
		if want == api.OK {
			t.Fatalf("CheckTrace(%v) = OK", trace)
		}
		for _, c := range goodClocks() {
			wantRunError(t, fmt.Sprintf("%d keys", len(trace)), c, trace, want)
		}
	}
	wantRunError(t, "a key too many", of(1, 0), upTo(api.MaxTrace+1), api.ErrMany)
	wantRunError(t, "a key out of range at the end", of(1, 0), []int{1, 2, -1}, api.ErrRange)
}

func TestRunFirstReturnsTheErrorOfCheck(t *testing.T) {
	for _, b := range badClocks() {
		for _, trace := range [][]int{nil, {1, 2}, {-1}, upTo(api.MaxTrace + 1)} {
			wantRunError(t, b.name, b.c, trace, b.want)
		}
	}
}

// Clear, which has no number in the document.

func TestClearSetsUsedToFalse(t *testing.T) {
	wantClear(t, of(1, 0), of(1, 0))
	wantClear(t, of(2, 0, yes(1), no(2)), of(2, 0, no(1), no(2)))
	for many := 1; many <= api.MaxRoom; many++ {
		for hand := range many {
			want := of(api.MaxRoom, hand, frames(many, false)...)
			wantClear(t, of(api.MaxRoom, hand, frames(many, true)...), want)
			wantClear(t, want, want)
		}
	}
}

func TestClearOfMixedFrames(t *testing.T) {
	source := rand.New(rand.NewSource(4))
	for range 200 {
		c := randomClock(source, 2*api.MaxRoom)
		want := of(c.Room, c.Hand)
		for _, f := range c.Frames {
			want.Frames = append(want.Frames, no(f.Key))
		}
		wantClear(t, c, want)
	}
}

func TestClearReturnsTheErrorOfCheck(t *testing.T) {
	for _, b := range badClocks() {
		if got, err := clock.Clear(b.c); !equal(got, api.Clock{}) || err != b.want {
			t.Errorf("Clear, %s: %v, %d; want zero values, %d", b.name, got, err, b.want)
		}
	}
}

// P2.

// spareFrames is a list with spare capacity; all returns everything in its memory.
func spareFrames(list ...api.Frame) (result []api.Frame, all func() string) {
	whole := append(slices.Clone(list), yes(-5), no(-6), yes(-7))
	return whole[:len(list)], func() string { return fmt.Sprint(whole[:cap(whole)]) }
}

// overwrite fills the whole memory of a list.
func overwrite(list []api.Frame) {
	list = list[:cap(list)]
	for i := range list {
		list[i] = yes(-8)
	}
}

func TestArgumentsAreNeitherChangedNorShared(t *testing.T) {
	for _, room := range []int{3, 4, 6} {
		list, all := spareFrames(yes(1), no(2), yes(3))
		trace := []int{3, 1, 4, 2, 2, 5, 1, 6, -5, -6}
		c, before, traceBefore := of(room, 2, list...), all(), fmt.Sprint(trace)
		check := func(what string, got api.Clock, err, want api.Errno) {
			t.Helper()
			overwrite(got.Frames)
			if err != want || all() != before || fmt.Sprint(trace) != traceBefore {
				t.Fatalf("%s: error %d, want %d; the arguments are now %s, %v", what, err, want, all(), trace)
			}
		}
		check("Check", api.Clock{}, clock.Check(c), api.OK)
		for key := range 5 {
			got, _, _, err := clock.Access(c, key)
			check(fmt.Sprint("Access of ", key), got, err, api.OK)
		}
		for many := range 9 {
			got, _, err := clock.Run(c, trace[:many])
			check(fmt.Sprintf("Run of %d keys", many), got, err, api.OK)
		}
		got, err := clock.Clear(c)
		check("Clear", got, err, api.OK)
		got, _, _, err = clock.Access(c, -1)
		check("Access of no key", got, err, api.ErrRange)
		got, _, err = clock.Run(c, trace)
		check("Run of no trace", got, err, api.ErrRange)
	}
}
