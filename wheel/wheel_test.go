package wheel_test

import (
	"cmp"
	"fmt"
	"math"
	"math/rand"
	"slices"
	"testing"

	"slopchest/api"
	"slopchest/wheel"
)

// slowPlace follows the document, with the octal digits written out.
func slowPlace(now, at int) int {
	a, b := fmt.Sprintf("%06o", now), fmt.Sprintf("%06o", at)
	for i := range 6 {
		if a[i] != b[i] {
			return 8*(5-i) + int(b[i]-'0')
		}
	}
	panic("the times are equal")
}

// slowOrder sorts timers by At, and by Id if At is equal.
func slowOrder(list []api.Timer) []api.Timer {
	sorted := slices.Clone(list)
	slices.SortFunc(sorted, func(a, b api.Timer) int {
		if a.At != b.At {
			return cmp.Compare(a.At, b.At)
		}
		return cmp.Compare(a.Id, b.Id)
	})
	return sorted
}

// of is the wheel with these timers.
func of(now int, list ...api.Timer) api.Wheel {
	w := api.Wheel{Now: now, Slots: make([][]api.Timer, api.Places)}
	for _, t := range slowOrder(list) {
		at := slowPlace(now, t.At)
		w.Slots[at] = append(w.Slots[at], t)
	}
	return w
}

// with is the wheel with other timers in one slot, whether they belong there or not.
func with(w api.Wheel, slot int, list ...api.Timer) api.Wheel {
	w.Slots = slices.Clone(w.Slots)
	w.Slots[slot] = list
	return w
}

func equal(a, b api.Wheel) bool {
	return a.Now == b.Now && slices.EqualFunc(a.Slots, b.Slots, slices.Equal[[]api.Timer])
}

func clone(w api.Wheel) api.Wheel {
	slots := make([][]api.Timer, len(w.Slots))
	for i, list := range w.Slots {
		slots[i] = slices.Clone(list)
	}
	return api.Wheel{Now: w.Now, Slots: slots}
}

func wantWheel(t *testing.T, what string, got api.Wheel, err api.Errno, want api.Wheel) {
	t.Helper()
	if err != api.OK || !equal(got, want) {
		t.Errorf("%s = %v, %d; want %v, OK", what, got, err, want)
	}
}

func wantError(t *testing.T, what string, got api.Wheel, err, want api.Errno) {
	t.Helper()
	if err != want || !equal(got, api.Wheel{}) {
		t.Errorf("%s = %v, %d; want no wheel, %d", what, got, err, want)
	}
}

func wantExpired(t *testing.T, what string, got []api.Timer, want []api.Timer) {
	t.Helper()
	if !slices.Equal(got, want) {
		t.Errorf("%s returns the timers %v, want %v", what, got, want)
	}
}

// times are times with digits of all kinds.
func times() []int {
	list := []int{0, 60, 63, api.MaxTime, 0o123456, 0o654321, 0o070707, 0o707070, 0o100001, 0o777770, 0o077777}
	for level := range 6 {
		for _, n := range []int{1, 3, 7} {
			at := n << (3 * level)
			list = append(list, at-1, at, at+1, api.MaxTime-at)
		}
	}
	slices.Sort(list)
	return slices.Compact(list)
}

// notTimes are numbers that are not times.
func notTimes() []int {
	return []int{-1, api.MaxTime + 1, -api.MaxTime, math.MinInt, math.MaxInt, 1 << 32, 1<<32 + 5}
}

// badTimers are timers that cannot be in a wheel at a time.
func badTimers(now int) []api.Timer {
	list := []api.Timer{{Id: 1, At: now}, {Id: 0, At: 0}, {Id: -1, At: now}}
	for _, id := range []int{-1, api.MaxKey + 1, math.MinInt, math.MaxInt} {
		list = append(list, api.Timer{Id: id, At: min(now+1, api.MaxTime)})
	}
	for _, at := range append(notTimes(), now-1) {
		list = append(list, api.Timer{Id: 1, At: at})
	}
	return list
}

// randomTimers returns timers later than now with different Ids: many of them
// near to each other, so that slots have several and times are equal.
func randomTimers(source *rand.Rand, now, many int) []api.Timer {
	var list []api.Timer
	if now == api.MaxTime {
		return nil
	}
	for _, id := range source.Perm(2 * api.MaxTimers)[:many] {
		near := 1 << (1 + source.Intn(18))
		list = append(list, api.Timer{Id: id * api.MaxKey / (2 * api.MaxTimers), At: now + 1 + source.Intn(min(near, api.MaxTime-now))})
	}
	return list
}

// manyTimers are so many timers, over the slots of all levels at the time 0.
func manyTimers(many int) []api.Timer {
	var list []api.Timer
	for id := range many {
		list = append(list, api.Timer{Id: id, At: (1 + id/6%7) << (3 * (id % 6))})
	}
	return list
}

// badWheel is a wheel that Check refuses.
type badWheel struct {
	name string
	w    api.Wheel
	want api.Errno
}

// badWheels are wheels with each of the errors of Check, alone and with others.
func badWheels() []badWheel {
	empty := of(0)
	one := api.Timer{Id: 1, At: 1}
	bad := api.Timer{Id: -1, At: 1}
	nine := of(0, api.Timer{Id: 9, At: 9})
	tooMany := of(0, manyTimers(api.MaxTimers+1)...)
	last := api.Timer{Id: 0o777, At: api.MaxTime}
	short, long := api.Wheel{Slots: empty.Slots[:47]}, api.Wheel{Slots: make([][]api.Timer, 49)}
	long.Slots[48] = []api.Timer{one}
	list := []badWheel{
		{"zero", api.Wheel{}, api.ErrForm},
		{"no slots, not nil", api.Wheel{Slots: [][]api.Timer{}}, api.ErrForm},
		{"a slot too few", short, api.ErrForm},
		{"a slot too many", long, api.ErrForm},
		{"many slots", api.Wheel{Now: api.MaxTime, Slots: make([][]api.Timer, 1000)}, api.ErrForm},
		{"not ordered by At", with(empty, 9, api.Timer{Id: 1, At: 9}, api.Timer{Id: 2, At: 8}), api.ErrState},
		{"not ordered by Id", with(empty, 1, api.Timer{Id: 2, At: 1}, api.Timer{Id: 1, At: 1}), api.ErrState},
		{"the last not ordered", with(empty, 9, api.Timer{Id: 1, At: 9}, api.Timer{Id: 2, At: 10}, api.Timer{Id: 3, At: 9}), api.ErrState},
		{"the middle not ordered", with(empty, 9, api.Timer{Id: 2, At: 9}, api.Timer{Id: 1, At: 9}, api.Timer{Id: 3, At: 10}), api.ErrState},
		{"in the slot of an earlier time", with(of(0), 11, api.Timer{Id: 1, At: 32}), api.ErrState},
		{"in the slot of another level", with(empty, 8, api.Timer{Id: 1, At: 64}), api.ErrState},
		{"in the slot of a time that is gone", api.Wheel{Now: 8, Slots: with(empty, 9, api.Timer{Id: 1, At: 9}).Slots}, api.ErrState},
		{"Id twice in a slot", with(empty, 9, api.Timer{Id: 1, At: 8}, api.Timer{Id: 1, At: 9}), api.ErrTwice},
		{"Id twice, with another between", with(empty, 9, api.Timer{Id: 1, At: 8}, api.Timer{Id: 2, At: 8}, api.Timer{Id: 1, At: 9}), api.ErrTwice},
		{"Id 0 twice", with(with(empty, 1, api.Timer{At: 1}), 47, api.Timer{At: api.MaxTime}), api.ErrTwice},
		{"Id twice in two slots", with(nine, 47, api.Timer{Id: 9, At: api.MaxTime}), api.ErrTwice},
		{"a timer too many", tooMany, api.ErrMany},
		{"a timer too many in one slot", of(0, sameTime(api.MaxTimers+1)...), api.ErrMany},
		{"very many timers", of(0, sameTime(1<<14)...), api.ErrMany},
		// The errors of the whole wheel come in their order, and before those of the timers.
		{"time before slots", api.Wheel{Now: -1}, api.ErrRange},
		{"slots before a timer out of range", api.Wheel{Slots: with(empty, 1, bad).Slots[:47]}, api.ErrForm},
		{"slots before a timer in a wrong slot", api.Wheel{Slots: with(empty, 2, one).Slots[:47]}, api.ErrForm},
		{"slots before many timers", api.Wheel{Slots: tooMany.Slots[:47]}, api.ErrForm},
		// Of one timer the first error counts.
		{"range before the slot", with(empty, 2, bad), api.ErrRange},
		{"time before the slot", api.Wheel{Now: 9, Slots: nine.Slots}, api.ErrRange},
		{"range before the order", with(empty, 1, api.Timer{Id: 1, At: 1}, bad), api.ErrRange},
		{"range before twice", with(nine, 47, api.Timer{Id: 9, At: api.MaxTime + 1}), api.ErrRange},
		{"slot before twice", with(nine, 46, api.Timer{Id: 9, At: api.MaxTime}), api.ErrState},
		{"order before twice", with(empty, 9, api.Timer{Id: 1, At: 9}, api.Timer{Id: 1, At: 8}), api.ErrState},
		{"the same timer twice", with(empty, 1, one, one), api.ErrState},
		// Of several timers the first one counts.
		{"slot, then range", with(empty, 2, one, bad), api.ErrState},
		{"slot, then range in the next slot", with(with(empty, 2, one), 3, bad), api.ErrState},
		{"range, then slot in the next slot", with(with(empty, 1, bad), 3, one), api.ErrRange},
		{"order, then range", with(empty, 9, api.Timer{Id: 1, At: 9}, api.Timer{Id: 2, At: 8}, bad), api.ErrState},
		{"twice, then range", with(empty, 9, api.Timer{Id: 1, At: 8}, api.Timer{Id: 1, At: 9}, bad), api.ErrTwice},
		{"twice, then order", with(empty, 9, api.Timer{Id: 1, At: 8}, api.Timer{Id: 1, At: 9}, api.Timer{Id: 2, At: 8}), api.ErrTwice},
		{"twice, then range in the next slot", with(with(nine, 10, api.Timer{Id: 9, At: 16}), 11, bad), api.ErrTwice},
		{"twice, then a wrong slot", with(with(nine, 10, api.Timer{Id: 9, At: 16}), 11, one), api.ErrTwice},
		{"order, then twice", with(with(empty, 9, api.Timer{Id: 2, At: 9}, api.Timer{Id: 1, At: 9}), 10, api.Timer{Id: 1, At: 16}), api.ErrState},
		// The number of timers comes last.
		{"range before many", with(tooMany, 47, api.Timer{Id: -1, At: api.MaxTime}), api.ErrRange},
		{"slot before many", with(tooMany, 46, last), api.ErrState},
		{"order before many", with(tooMany, 47, last, last), api.ErrState},
		{"twice before many", with(tooMany, 47, api.Timer{Id: 1, At: api.MaxTime}), api.ErrTwice},
	}
	for _, now := range notTimes() {
		list = append(list, badWheel{fmt.Sprint("time ", now), api.Wheel{Now: now, Slots: empty.Slots}, api.ErrRange},
			badWheel{fmt.Sprint("time before a timer, ", now), api.Wheel{Now: now, Slots: with(empty, 2, one).Slots}, api.ErrRange})
	}
	for _, t := range badTimers(5) {
		for slot := range api.Places {
			list = append(list, badWheel{fmt.Sprint("timer ", t), with(of(5), slot, t), api.ErrRange})
		}
		list = append(list, badWheel{fmt.Sprint("second timer ", t), with(of(5), 6, api.Timer{Id: 0, At: 6}, t), api.ErrRange})
	}
	return list
}

// sameTime are timers with one time.
func sameTime(many int) []api.Timer {
	list := make([]api.Timer, many)
	for id := range list {
		list[id] = api.Timer{Id: id, At: 0o700000}
	}
	return list
}

// E1.

func TestPlacesOfKnownTimers(t *testing.T) {
	for _, c := range []struct{ now, at, slot int }{
		{0, 24, 11}, // The example of the document.
		{0, 1, 1}, {0, 7, 7}, {6, 7, 7}, {0, 8, 9}, {7, 8, 9}, {9, 17, 10}, {0, 63, 15}, {56, 63, 7},
		{0, 64, 17}, {60, 64, 17}, {63, 64, 17}, {0, 0o1000, 25}, {0o777, 0o1000, 25}, {0, 0o10000, 33}, {0, 0o100000, 41},
		{0, api.MaxTime, 47}, {0o700000, api.MaxTime, 39}, {0o777770, api.MaxTime, 7}, {api.MaxTime - 1, api.MaxTime, 7},
		{0o123456, 0o123457, 7}, {0o123456, 0o123460, 14}, {0o123456, 0o123500, 21}, {0o123456, 0o124000, 28},
		{0o123456, 0o130000, 35}, {0o123456, 0o200000, 42},
		// Only the first digit that differs counts, even if later ones are smaller or equal.
		{0o123456, 0o200456, 42}, {0o123456, 0o124001, 28}, {0o123456, 0o133456, 35},
	} {
		w, err := wheel.Add(of(c.now), api.Timer{Id: 1, At: c.at})
		wantWheel(t, fmt.Sprintf("Add of %o at %o", c.at, c.now), w, err, with(of(c.now), c.slot, api.Timer{Id: 1, At: c.at}))
	}
}

func TestEveryTimerBelongsInOneSlot(t *testing.T) {
	for _, now := range times() {
		for _, at := range times() {
			if at <= now {
				continue
			}
			own := slowPlace(now, at)
			timer := api.Timer{Id: 1, At: at}
			w, err := wheel.Add(of(now), timer)
			wantWheel(t, fmt.Sprintf("Add of %o at %o", at, now), w, err, with(of(now), own, timer))
			for slot := range api.Places {
				want := api.ErrState
				if slot == own {
					want = api.OK
				}
				if got := wheel.Check(with(of(now), slot, timer)); got != want {
					t.Errorf("Check of the timer %o in slot %d at %o = %d, want %d", at, slot, now, got, want)
				}
			}
		}
	}
}

// E2.

func TestCheckRefuses(t *testing.T) {
	for _, c := range badWheels() {
		if got := wheel.Check(c.w); got != c.want {
			t.Errorf("Check, %s: %d, want %d", c.name, got, c.want)
		}
	}
}

func TestCheckAccepts(t *testing.T) {
	list := []api.Wheel{
		{Slots: slices.Repeat([][]api.Timer{{}}, api.Places)},
		of(0, manyTimers(api.MaxTimers)...),
		of(0, sameTime(api.MaxTimers)...),
		of(0, api.Timer{Id: 0, At: 1}, api.Timer{Id: api.MaxKey, At: api.MaxTime}),
		of(api.MaxTime-1, api.Timer{Id: 0, At: api.MaxTime}, api.Timer{Id: api.MaxKey, At: api.MaxTime}),
		of(0, api.Timer{Id: 1, At: 24}, api.Timer{Id: 2, At: 24}),
		of(0, api.Timer{Id: 2, At: 24}, api.Timer{Id: 1, At: 25}),
	}
	source := rand.New(rand.NewSource(1))
	for _, now := range times() {
		list = append(list, of(now))
		for _, many := range []int{1, 20, api.MaxTimers} {
			list = append(list, of(now, randomTimers(source, now, many)...))
		}
	}
	for _, w := range list {
		if got := wheel.Check(w); got != api.OK {
			t.Errorf("Check(%v) = %d, want OK", w, got)
		}
	}
}

func TestAllFunctionsFirstReturnTheErrorOfCheck(t *testing.T) {
	for _, c := range badWheels() {
		for _, timer := range append(badTimers(0), api.Timer{Id: 1, At: 1}, api.Timer{Id: 500, At: api.MaxTime}) {
			got, err := wheel.Add(c.w, timer)
			wantError(t, "Add, "+c.name, got, err, c.want)
		}
		for _, id := range []int{-1, 0, 1, 9, api.MaxKey + 1} {
			got, err := wheel.Cancel(c.w, id)
			wantError(t, "Cancel, "+c.name, got, err, c.want)
		}
		for _, to := range append(notTimes(), 0, 9, api.MaxTime) {
			got, expired, err := wheel.Advance(c.w, to)
			wantError(t, "Advance, "+c.name, got, err, c.want)
			wantExpired(t, "Advance, "+c.name, expired, nil)
		}
		if got, err := wheel.Next(c.w); got != 0 || err != c.want {
			t.Errorf("Next, %s = %d, %d; want 0, %d", c.name, got, err, c.want)
		}
	}
}

// New, which has no number in the document.

func TestNewHasNoTimers(t *testing.T) {
	for _, now := range times() {
		w, err := wheel.New(now)
		wantWheel(t, fmt.Sprintf("New(%d)", now), w, err, of(now))
		if err := wheel.Check(w); err != api.OK {
			t.Errorf("Check of New(%d) = %d, want OK", now, err)
		}
	}
	for _, now := range notTimes() {
		w, err := wheel.New(now)
		wantError(t, fmt.Sprintf("New(%d)", now), w, err, api.ErrRange)
	}
}

// E3.

func TestAddInAnyOrderGivesTheSameWheel(t *testing.T) {
	source := rand.New(rand.NewSource(2))
	for _, now := range times() {
		list := randomTimers(source, now, 1+source.Intn(api.MaxTimers))
		w := of(now)
		for i, timer := range list {
			var err api.Errno
			w, err = wheel.Add(w, timer)
			wantWheel(t, fmt.Sprintf("Add %v at %d", timer, now), w, err, of(now, list[:i+1]...))
		}
		if err := wheel.Check(w); err != api.OK {
			t.Errorf("Check of the result of Add = %d, want OK", err)
		}
	}
}

func TestAddKeepsASlotInOrder(t *testing.T) {
	w := of(0, api.Timer{Id: 5, At: 24}, api.Timer{Id: 7, At: 24}, api.Timer{Id: 1, At: 26})
	for _, c := range []struct {
		add  api.Timer
		want string
	}{
		{api.Timer{Id: 4, At: 24}, "[{4 24} {5 24} {7 24} {1 26}]"},
		{api.Timer{Id: 6, At: 24}, "[{5 24} {6 24} {7 24} {1 26}]"},
		{api.Timer{Id: 8, At: 24}, "[{5 24} {7 24} {8 24} {1 26}]"},
		{api.Timer{Id: 0, At: 25}, "[{5 24} {7 24} {0 25} {1 26}]"},
		{api.Timer{Id: 0, At: 26}, "[{5 24} {7 24} {0 26} {1 26}]"},
		{api.Timer{Id: 2, At: 26}, "[{5 24} {7 24} {1 26} {2 26}]"},
		{api.Timer{Id: 0, At: 27}, "[{5 24} {7 24} {1 26} {0 27}]"},
	} {
		got, err := wheel.Add(w, c.add)
		if err != api.OK || fmt.Sprint(got.Slots[11]) != c.want {
			t.Errorf("Add %v: slot %v, error %d; want %s", c.add, got.Slots[11], err, c.want)
		}
	}
}

func TestAddRefusesTimersOutOfRange(t *testing.T) {
	for _, now := range times() {
		full := of(now)
		if now == 0 {
			// The other errors come later.
			full = of(0, manyTimers(api.MaxTimers)...)
		}
		for _, w := range []api.Wheel{of(now), full} {
			for _, timer := range badTimers(now) {
				if timer.Id == 1 && timer.At > now && timer.At <= api.MaxTime {
					t.Fatalf("the timer %v is not bad at %d", timer, now)
				}
				got, err := wheel.Add(w, timer)
				wantError(t, fmt.Sprintf("Add %v at %d", timer, now), got, err, api.ErrRange)
			}
		}
	}
}

func TestAddRefusesAnIdThatIsThere(t *testing.T) {
	for _, many := range []int{1, 2, 30, api.MaxTimers} {
		w := of(0, manyTimers(many)...)
		for id := range many {
			for _, at := range []int{1, 8, 24, 0o700000, api.MaxTime} {
				got, err := wheel.Add(w, api.Timer{Id: id, At: at})
				wantError(t, fmt.Sprintf("Add of Id %d to %d timers", id, many), got, err, api.ErrTwice)
			}
		}
	}
}

func TestAddRefusesATimerTooMany(t *testing.T) {
	for _, list := range [][]api.Timer{manyTimers(api.MaxTimers), sameTime(api.MaxTimers)} {
		for i, timer := range list {
			others := slices.Delete(slices.Clone(list), i, i+1)
			w, err := wheel.Add(of(0, others...), timer)
			wantWheel(t, "Add of the last timer", w, err, of(0, list...))
		}
		for _, timer := range []api.Timer{{Id: api.MaxTimers, At: 1}, {Id: api.MaxKey, At: 0o700000}, {Id: 1000, At: api.MaxTime}} {
			w, err := wheel.Add(of(0, list...), timer)
			wantError(t, "Add of a timer too many", w, err, api.ErrFull)
		}
	}
}

func TestCancelRemovesOneTimer(t *testing.T) {
	source := rand.New(rand.NewSource(3))
	for _, now := range times() {
		list := randomTimers(source, now, 1+source.Intn(api.MaxTimers))
		w := of(now, list...)
		for i, timer := range list {
			others := slices.Delete(slices.Clone(list), i, i+1)
			got, err := wheel.Cancel(w, timer.Id)
			wantWheel(t, fmt.Sprintf("Cancel %v", timer), got, err, of(now, others...))
			again, err := wheel.Add(got, timer)
			wantWheel(t, fmt.Sprintf("Cancel and Add %v", timer), again, err, w)
			again, err = wheel.Cancel(got, timer.Id)
			wantError(t, fmt.Sprintf("Cancel %v again", timer), again, err, api.ErrNone)
		}
	}
}

func TestCancelRefusesAnIdThatIsNotThere(t *testing.T) {
	for _, w := range []api.Wheel{of(0), of(api.MaxTime), of(0, api.Timer{Id: 7, At: 9}), of(0, manyTimers(api.MaxTimers)...)} {
		// Numbers that no Id can be are not there either.
		for _, id := range []int{60, 1000, api.MaxKey, -1, api.MaxKey + 1, math.MinInt, math.MaxInt} {
			got, err := wheel.Cancel(w, id)
			wantError(t, fmt.Sprintf("Cancel %d", id), got, err, api.ErrNone)
		}
	}
	// An Id is not a time or a slot.
	for _, id := range []int{0, 9, 24, 11} {
		got, err := wheel.Cancel(of(0, api.Timer{Id: 7, At: 9}, api.Timer{Id: 8, At: 24}), id)
		wantError(t, fmt.Sprintf("Cancel %d", id), got, err, api.ErrNone)
	}
}

// E4.

func TestAdvanceOfTheExample(t *testing.T) {
	timer := api.Timer{Id: 3, At: 24}
	w, err := wheel.Add(of(0), timer)
	wantWheel(t, "Add", w, err, with(of(0), 11, timer))
	got, expired, err := wheel.Advance(w, 23)
	wantWheel(t, "Advance to 23", got, err, with(of(23), 11, timer))
	wantExpired(t, "Advance to 23", expired, nil)
	for _, w := range []api.Wheel{w, got} {
		got, expired, err := wheel.Advance(w, 24)
		wantWheel(t, "Advance to 24", got, err, of(24))
		wantExpired(t, "Advance to 24", expired, []api.Timer{timer})
	}
}

func TestAdvanceMovesTimersDown(t *testing.T) {
	timer := api.Timer{Id: 1, At: 0o123456}
	w := of(0, timer)
	for _, c := range []struct{ to, slot int }{
		{0, 41}, {0o77777, 41}, {0o100000, 34}, {0o117777, 34}, {0o120000, 27}, {0o123000, 20}, {0o123400, 13}, {0o123447, 13},
		{0o123450, 6}, {0o123455, 6},
	} {
		var expired []api.Timer
		var err api.Errno
		w, expired, err = wheel.Advance(w, c.to)
		wantWheel(t, fmt.Sprintf("Advance to %o", c.to), w, err, with(of(c.to), c.slot, timer))
		wantExpired(t, fmt.Sprintf("Advance to %o", c.to), expired, nil)
	}
}

// slowAdvance follows the document: timers up to the time expire, the others
// are distributed anew.
func slowAdvance(list []api.Timer, to int) (api.Wheel, []api.Timer) {
	var expired, others []api.Timer
	for _, timer := range slowOrder(list) {
		if timer.At <= to {
			expired = append(expired, timer)
		} else {
			others = append(others, timer)
		}
	}
	return of(to, others...), expired
}

func TestAdvanceFollowsTheDocument(t *testing.T) {
	source := rand.New(rand.NewSource(4))
	for _, now := range times() {
		for _, many := range []int{0, 1, 7, 30, api.MaxTimers} {
			list := randomTimers(source, now, many)
			w := of(now, list...)
			ends := append(times(), now)
			for _, timer := range list {
				ends = append(ends, timer.At-1, timer.At, min(timer.At+1, api.MaxTime))
			}
			for _, to := range ends {
				if to < now {
					continue
				}
				want, wantList := slowAdvance(list, to)
				got, expired, err := wheel.Advance(w, to)
				what := fmt.Sprintf("Advance of %v to %d", w, to)
				wantWheel(t, what, got, err, want)
				wantExpired(t, what, expired, wantList)
				if err := wheel.Check(got); err != api.OK {
					t.Errorf("Check of the result of Advance = %d, want OK", err)
				}
			}
		}
	}
}

func TestAdvanceInAnyStepsGivesTheSameTimers(t *testing.T) {
	source := rand.New(rand.NewSource(5))
	for i := range 300 {
		now := source.Intn(api.MaxTime)
		if i%2 == 0 {
			now = times()[i/2%(len(times())-1)]
		}
		list := randomTimers(source, now, source.Intn(api.MaxTimers+1))
		w := of(now, list...)
		var all []api.Timer
		most := 1 << source.Intn(19)
		for range 40 {
			var expired []api.Timer
			var err api.Errno
			if w, expired, err = wheel.Advance(w, w.Now+source.Intn(min(most, api.MaxTime-w.Now+1))); err != api.OK {
				t.Fatalf("Advance: error %d", err)
			}
			all = append(all, expired...)
		}
		want, wantList := slowAdvance(list, w.Now)
		wantWheel(t, "Advance in steps", w, api.OK, want)
		wantExpired(t, "Advance in steps", all, wantList)
		got, expired, err := wheel.Advance(of(now, list...), w.Now)
		wantWheel(t, "Advance at once", got, err, w)
		wantExpired(t, "Advance at once", expired, all)
	}
}

func TestAdvanceByOneAllTheWay(t *testing.T) {
	const end = 0o2020
	source := rand.New(rand.NewSource(6))
	var list []api.Timer
	for id := range api.MaxTimers {
		list = append(list, api.Timer{Id: id, At: 1 + source.Intn(end)})
	}
	w := of(0, list...)
	var all []api.Timer
	for to := range end + 1 {
		var expired []api.Timer
		var err api.Errno
		if w, expired, err = wheel.Advance(w, to); err != api.OK {
			t.Fatalf("Advance to %d: error %d", to, err)
		}
		for _, timer := range expired {
			if timer.At != to {
				t.Errorf("the timer %v expires at %d", timer, to)
			}
		}
		all = append(all, expired...)
	}
	wantExpired(t, "Advance by one", all, slowOrder(list))
}

func TestAdvanceFromNextToNextFindsAllTimers(t *testing.T) {
	source := rand.New(rand.NewSource(7))
	for _, now := range times() {
		list := randomTimers(source, now, source.Intn(api.MaxTimers+1))
		w, all := of(now, list...), []api.Timer(nil)
		for len(all) < len(list) {
			at, err := wheel.Next(w)
			want := slowOrder(list)[len(all)].At
			if at != want || err != api.OK {
				t.Fatalf("Next(%v) = %d, %d; want %d, OK", w, at, err, want)
			}
			var expired []api.Timer
			if _, expired, err = wheel.Advance(w, at-1); err != api.OK || len(expired) != 0 {
				t.Errorf("before Next the timers %v expire, error %d", expired, err)
			}
			if w, expired, err = wheel.Advance(w, at); err != api.OK || len(expired) == 0 {
				t.Fatalf("at Next the timers %v expire, error %d", expired, err)
			}
			all = append(all, expired...)
		}
		wantExpired(t, "Advance from Next to Next", all, slowOrder(list))
		if at, err := wheel.Next(w); at != 0 || err != api.ErrNone {
			t.Errorf("Next without timers = %d, %d; want 0, %d", at, err, api.ErrNone)
		}
	}
}

func TestAdvanceRefuses(t *testing.T) {
	for _, w := range []api.Wheel{of(0), of(100), of(api.MaxTime), of(50, api.Timer{Id: 1, At: 60}), of(0, manyTimers(api.MaxTimers)...)} {
		// Negative numbers are also less than Now: that error comes later.
		for _, to := range notTimes() {
			got, expired, err := wheel.Advance(w, to)
			wantError(t, fmt.Sprintf("Advance to %d", to), got, err, api.ErrRange)
			wantExpired(t, fmt.Sprintf("Advance to %d", to), expired, nil)
		}
		for _, to := range []int{0, w.Now / 2, w.Now - 1} {
			if to < 0 || to >= w.Now {
				continue
			}
			got, expired, err := wheel.Advance(w, to)
			wantError(t, fmt.Sprintf("Advance from %d to %d", w.Now, to), got, err, api.ErrState)
			wantExpired(t, fmt.Sprintf("Advance from %d to %d", w.Now, to), expired, nil)
		}
		got, expired, err := wheel.Advance(w, w.Now)
		wantWheel(t, "Advance to Now", got, err, w)
		wantExpired(t, "Advance to Now", expired, nil)
	}
}

func TestNextIsTheSmallestTime(t *testing.T) {
	for _, c := range []struct {
		w    api.Wheel
		want int
	}{
		{of(0, api.Timer{Id: 1, At: 24}), 24},
		{of(0, api.Timer{Id: 1, At: 25}, api.Timer{Id: 2, At: 24}), 24},
		{of(0, api.Timer{Id: 1, At: api.MaxTime}), api.MaxTime},
		{of(0, api.Timer{Id: 1, At: 0o100000}, api.Timer{Id: 2, At: 0o77777}), 0o77777},
		{of(60, api.Timer{Id: 1, At: 64}, api.Timer{Id: 2, At: 61}), 61},
		{of(0, manyTimers(api.MaxTimers)...), 1},
	} {
		if got, err := wheel.Next(c.w); got != c.want || err != api.OK {
			t.Errorf("Next(%v) = %d, %d; want %d, OK", c.w, got, err, c.want)
		}
	}
	for _, now := range times() {
		if got, err := wheel.Next(of(now)); got != 0 || err != api.ErrNone {
			t.Errorf("Next without timers = %d, %d; want 0, %d", got, err, api.ErrNone)
		}
	}
}

// P2.

// spare is a wheel whose slots, and the list of them, have spare capacity; all
// returns everything in its memory.
func spare(w api.Wheel) (result api.Wheel, all func() string) {
	junk := api.Timer{Id: -5, At: -6}
	var slots [][]api.Timer
	for _, list := range w.Slots {
		slots = append(slots, append(slices.Clone(list), junk, junk)[:len(list)])
	}
	slots = append(slots, []api.Timer{junk}, []api.Timer{junk})[:len(slots)]
	return api.Wheel{Now: w.Now, Slots: slots}, func() string {
		var whole [][]api.Timer
		for _, list := range slots[:cap(slots)] {
			whole = append(whole, list[:cap(list)])
		}
		return fmt.Sprint(whole)
	}
}

// together is a wheel whose slots are parts of one list, so that what is
// written behind one of them changes the next.
func together(w api.Wheel) api.Wheel {
	all := slices.Concat(w.Slots...)
	result := api.Wheel{Now: w.Now, Slots: make([][]api.Timer, len(w.Slots))}
	start := 0
	for i, list := range w.Slots {
		result.Slots[i] = all[start : start+len(list)]
		start += len(list)
	}
	return result
}

// overwrite fills the whole memory of a list.
func overwrite(list []api.Timer) {
	list = list[:cap(list)]
	for i := range list {
		list[i] = api.Timer{Id: -7, At: -8}
	}
}

// changes are calls that return a wheel, and the expired timers if there are any.
func changes(w api.Wheel) map[string]func() (api.Wheel, []api.Timer, api.Errno) {
	plain := func(w api.Wheel, err api.Errno) (api.Wheel, []api.Timer, api.Errno) { return w, nil, err }
	return map[string]func() (api.Wheel, []api.Timer, api.Errno){
		"New":            func() (api.Wheel, []api.Timer, api.Errno) { return plain(wheel.New(w.Now)) },
		"Add":            func() (api.Wheel, []api.Timer, api.Errno) { return plain(wheel.Add(w, api.Timer{Id: 1, At: 25})) },
		"Cancel":         func() (api.Wheel, []api.Timer, api.Errno) { return plain(wheel.Cancel(w, 4)) },
		"Advance to 0":   func() (api.Wheel, []api.Timer, api.Errno) { return wheel.Advance(w, 0) },
		"Advance to 24":  func() (api.Wheel, []api.Timer, api.Errno) { return wheel.Advance(w, 24) },
		"Advance to 100": func() (api.Wheel, []api.Timer, api.Errno) { return wheel.Advance(w, 100) },
		"Advance to end": func() (api.Wheel, []api.Timer, api.Errno) { return wheel.Advance(w, api.MaxTime) },
	}
}

func ordinary() api.Wheel {
	return of(0, api.Timer{Id: 9, At: 5}, api.Timer{Id: 2, At: 24}, api.Timer{Id: 3, At: 24}, api.Timer{Id: 4, At: 26}, api.Timer{Id: 5, At: 30}, api.Timer{Id: 6, At: 100}, api.Timer{Id: 7, At: 0o777})
}

func TestWheelsAreNeitherChangedNorShared(t *testing.T) {
	w, whole := spare(ordinary())
	before := whole()
	for name, run := range changes(w) {
		got, expired, err := run()
		if err != api.OK {
			t.Errorf("%s: error %d", name, err)
		}
		overwrite(expired)
		for _, list := range got.Slots[:cap(got.Slots)] {
			overwrite(list)
		}
		clear(got.Slots[:cap(got.Slots)])
		if whole() != before {
			t.Fatalf("%s changes its argument: %s", name, whole())
		}
	}
	wheel.Check(w)
	wheel.Next(w)
	wheel.Add(w, api.Timer{Id: 9, At: 9})
	wheel.Cancel(w, 1)
	wheel.Advance(w, -1)
	if whole() != before {
		t.Errorf("Check, Next or a call that fails changes its argument: %s", whole())
	}
}

func TestSlotsOfAnArgumentMayShareMemory(t *testing.T) {
	w := together(ordinary())
	plain := changes(ordinary())
	for name, run := range changes(w) {
		want, wantList, _ := plain[name]()
		got, expired, err := run()
		wantWheel(t, name, got, err, want)
		wantExpired(t, name, expired, wantList)
		wantWheel(t, "the argument of "+name, w, api.OK, ordinary())
	}
}

func TestSlicesOfAResultDoNotShareMemory(t *testing.T) {
	for name, run := range changes(together(ordinary())) {
		got, expired, err := run()
		if err != api.OK {
			t.Errorf("%s: error %d", name, err)
		}
		want, wantList := clone(got), slices.Clone(expired)
		for i := range got.Slots {
			overwrite(got.Slots[i])
			wantExpired(t, fmt.Sprintf("%s, after a change of slot %d,", name, i), expired, wantList)
			for j := i + 1; j < len(got.Slots); j++ {
				if !slices.Equal(got.Slots[j], want.Slots[j]) {
					t.Errorf("%s: slot %d shares memory with slot %d", name, i, j)
				}
			}
		}
		again, expired, _ := run()
		overwrite(expired)
		wantWheel(t, name+", after a change of the expired timers,", again, api.OK, want)
	}
}
