package table_test

import (
	"fmt"
	"hash/fnv"
	"math"
	"math/rand"
	"slices"
	"strings"
	"testing"

	"slopchest/api"
	"slopchest/hash"
	"slopchest/table"
)

// home is the home of a key, with the sum of the standard library.
func home(key string, slots int) int {
	sum := fnv.New64a()
	sum.Write([]byte(key))
	at, err := hash.Reduce(hash.Mix(sum.Sum64()), slots)
	if err != api.OK {
		panic("no home")
	}
	return at
}

// keysAt returns different keys with the given homes in a table with so many slots.
func keysAt(slots int, homes ...int) []string {
	keys := make([]string, len(homes))
	number := 0
	for i, want := range homes {
		for keys[i] == "" {
			if key := fmt.Sprint("k", number); home(key, slots) == want {
				keys[i] = key
			}
			number++
		}
	}
	return keys
}

func used(key string, value int) api.Slot { return api.Slot{Used: true, Key: key, Value: value} }

// placed returns a table with so many slots, in which slot i has keys[i], or is
// unused where that is "".
func placed(keys ...string) []api.Slot {
	list := make([]api.Slot, len(keys))
	for i, key := range keys {
		if key != "" {
			list[i] = used(key, i+1)
		}
	}
	return list
}

// fill puts keys into a new table; the value of keys[i] is i + 1.
func fill(t *testing.T, slots int, keys ...string) []api.Slot {
	t.Helper()
	list := make([]api.Slot, slots)
	for i, key := range keys {
		var err api.Errno
		if list, err = table.Put(list, key, i+1); err != api.OK {
			t.Fatalf("Put(%q) into %d slots: error %d", key, slots, err)
		}
	}
	return list
}

func wantTable(t *testing.T, what string, got []api.Slot, err api.Errno, want []api.Slot) {
	t.Helper()
	if err != api.OK || !slices.Equal(got, want) {
		t.Errorf("%s = %v, %d; want %v, OK", what, got, err, want)
	}
}

func wantError(t *testing.T, what string, got []api.Slot, err, want api.Errno) {
	t.Helper()
	if err != want || len(got) != 0 {
		t.Errorf("%s = %v, %d; want no table, %d", what, got, err, want)
	}
}

var (
	longest = strings.Repeat("k", api.MaxText)
	tooLong = strings.Repeat("k", api.MaxText+1)
)

// tooLongKeys are keys that every function refuses.
func tooLongKeys() []string {
	// The second one has fewer runes than MaxText, but more bytes.
	return []string{tooLong, strings.Repeat("é", api.MaxText/2+1), strings.Repeat("\x00", 1<<20)}
}

// badValues are values that Put and Check refuse.
func badValues() []int {
	return []int{api.MaxValue + 1, -api.MaxValue - 1, math.MaxInt, math.MinInt}
}

// badTable is a table that Check refuses.
type badTable struct {
	name  string
	slots []api.Slot
	want  api.Errno
}

// badTables are tables with each of the errors of Check, alone and with others.
func badTables() []badTable {
	many := make([]api.Slot, api.MaxSlots+1)
	manyBad := slices.Repeat([]api.Slot{{Key: "a"}}, api.MaxSlots+1)
	// The homes of a, b and c in four slots are 0, 0 and 1.
	list := []badTable{
		{"nil", nil, api.ErrForm},
		{"no slots", []api.Slot{}, api.ErrForm},
		{"65 slots", many, api.ErrMany},
		{"65 bad slots", manyBad, api.ErrMany},
		{"1000 slots", make([]api.Slot, 1000), api.ErrMany},
		{"unused slot with a key", []api.Slot{{Key: "a"}}, api.ErrForm},
		{"unused slot with a value", []api.Slot{{}, {Value: 1}}, api.ErrForm},
		{"unused slot with a bad key", []api.Slot{{Key: tooLong, Value: math.MinInt}}, api.ErrForm},
		{"twice", placed("a", "a"), api.ErrTwice},
		{"twice, far apart", placed("a", "b", "c", "a"), api.ErrTwice},
		{"empty key twice", []api.Slot{used("", 1), used("", 2)}, api.ErrTwice},
		{"not at home", placed("", "", "", "a"), api.ErrState},
		{"gap", placed("a", "", "b", ""), api.ErrState},
		{"just after an unused home", placed("", "a", "", ""), api.ErrState},
		// Of several slots the first one counts, and of one slot the first error.
		{"form before range", []api.Slot{{Key: "a"}, used(tooLong, 0)}, api.ErrForm},
		{"range before form", []api.Slot{used(tooLong, 0), {Key: "a"}}, api.ErrRange},
		{"form before twice", []api.Slot{used("a", 0), {Value: 1}, used("a", 0)}, api.ErrForm},
		{"twice before form", []api.Slot{used("a", 0), used("a", 0), {Value: 1}}, api.ErrTwice},
		{"twice before range", []api.Slot{used("a", 0), used("a", 0), used(tooLong, 0)}, api.ErrTwice},
		{"range and twice", []api.Slot{used("a", 0), used("a", api.MaxValue+1)}, api.ErrRange},
		{"long key twice", []api.Slot{used(tooLong, 0), used(tooLong, 0)}, api.ErrRange},
		{"state, then form", []api.Slot{{}, used("a", 0), {}, {Key: "b"}}, api.ErrForm},
		{"state, then range", []api.Slot{{}, used("a", 0), {}, used("b", math.MaxInt)}, api.ErrRange},
		{"state and twice", []api.Slot{{}, used("a", 0), {}, used("a", 0)}, api.ErrTwice},
	}
	for _, key := range tooLongKeys() {
		list = append(list, badTable{fmt.Sprintf("key of %d bytes", len(key)), []api.Slot{{}, used(key, 0)}, api.ErrRange})
	}
	for _, value := range badValues() {
		list = append(list, badTable{fmt.Sprint("value ", value), []api.Slot{used("a", value)}, api.ErrRange})
	}
	return list
}

// B1.

func TestCheckRefusesBadTables(t *testing.T) {
	for _, c := range badTables() {
		if got := table.Check(c.slots); got != c.want {
			t.Errorf("Check, %s: %d, want %d", c.name, got, c.want)
		}
	}
}

func TestCheckAcceptsTables(t *testing.T) {
	around := keysAt(4, 3, 3, 0)
	for name, list := range map[string][]api.Slot{
		"one unused slot":  make([]api.Slot, 1),
		"one used slot":    placed("a"),
		"64 unused slots":  make([]api.Slot, api.MaxSlots),
		"longest key":      {used(longest, 0)},
		"bytes, not runes": {used(strings.Repeat("\xff", api.MaxText), 0)},
		"greatest value":   {used("a", api.MaxValue)},
		"least value":      {used("a", -api.MaxValue)},
		"in order":         placed("a", "b", "c", ""),
		"others in order":  placed("b", "a", "c", ""),
		"over the end":     placed(around[1], around[2], "", around[0]),
		"full, any order":  placed("c", "b", "a", around[2]),
	} {
		if got := table.Check(list); got != api.OK {
			t.Errorf("Check, %s: %d, want OK", name, got)
		}
	}
}

func TestCheckKeepsTheEmptyKeyApartFromUnusedSlots(t *testing.T) {
	// An unused slot before that of the empty key is no earlier slot with this key.
	for slots := 1; slots <= api.MaxSlots; slots++ {
		list := make([]api.Slot, slots)
		list[home("", slots)] = used("", 0)
		if got := table.Check(list); got != api.OK {
			t.Errorf("Check of the empty key in %d slots: %d, want OK", slots, got)
		}
	}
}

func TestCheckConsidersSlotsCyclically(t *testing.T) {
	for slots := 2; slots <= api.MaxSlots; slots++ {
		for start := range slots {
			keys := keysAt(slots, start, start)
			list := make([]api.Slot, slots)
			list[(start+1)%slots] = used(keys[1], 1)
			if got := table.Check(list); got != api.ErrState {
				t.Errorf("Check with %d slots, unused home %d: %d, want ErrState", slots, start, got)
			}
			list[start] = used(keys[0], 1)
			if got := table.Check(list); got != api.OK {
				t.Errorf("Check with %d slots, used home %d: %d, want OK", slots, start, got)
			}
		}
	}
}

func TestAllFunctionsFirstReturnTheErrorOfCheck(t *testing.T) {
	for _, c := range badTables() {
		for _, key := range []string{"a", "z", tooLong} {
			if value, probes, err := table.Get(c.slots, key); err != c.want || value != 0 || probes != 0 {
				t.Errorf("Get, %s: %d, %d, %d; want 0, 0, %d", c.name, value, probes, err, c.want)
			}
			for _, value := range []int{1, api.MaxValue + 1} {
				got, err := table.Put(c.slots, key, value)
				wantError(t, "Put, "+c.name, got, err, c.want)
			}
			got, err := table.Delete(c.slots, key)
			wantError(t, "Delete, "+c.name, got, err, c.want)
		}
		for _, slots := range []int{0, 1, 64, 65} {
			got, err := table.Resize(c.slots, slots)
			wantError(t, "Resize, "+c.name, got, err, c.want)
		}
	}
}

// B2.

func TestGetReturnsValueAndProbes(t *testing.T) {
	// The homes of a, b and c in four slots are 0, 0 and 1.
	list := placed("a", "b", "c", "")
	around := keysAt(4, 3, 3, 3, 0)
	wrapped := placed(around[1], around[2], around[3], around[0])
	for _, c := range []struct {
		list          []api.Slot
		key           string
		value, probes int
	}{
		{list, "a", 1, 1},
		{list, "b", 2, 2},
		{list, "c", 3, 2},
		{wrapped, around[0], 4, 1},
		{wrapped, around[1], 1, 2},
		{wrapped, around[2], 2, 3},
		{wrapped, around[3], 3, 3},
		// In a full table a key may be as far from its home as there are slots.
		{placed("c", "b", around[0], "a"), "a", 4, 4},
		{placed("a"), "a", 1, 1},
		{[]api.Slot{used("", 0)}, "", 0, 1},
		{[]api.Slot{used(longest, -api.MaxValue)}, longest, -api.MaxValue, 1},
	} {
		value, probes, err := table.Get(c.list, c.key)
		if value != c.value || probes != c.probes || err != api.OK {
			t.Errorf("Get(%v, %q) = %d, %d, %d; want %d, %d, OK", c.list, c.key, value, probes, err, c.value, c.probes)
		}
	}
}

func TestGetRefusesKeys(t *testing.T) {
	full := placed("a", "b", "c", keysAt(4, 3)[0])
	for _, list := range [][]api.Slot{make([]api.Slot, 1), make([]api.Slot, 4), placed("a", "b", "c", ""), full} {
		for _, key := range []string{"z", "", "A", "a\x00", longest} {
			if value, probes, err := table.Get(list, key); value != 0 || probes != 0 || err != api.ErrNone {
				t.Errorf("Get(%v, %q) = %d, %d, %d; want 0, 0, ErrNone", list, key, value, probes, err)
			}
		}
		for _, key := range tooLongKeys() {
			if value, probes, err := table.Get(list, key); value != 0 || probes != 0 || err != api.ErrRange {
				t.Errorf("Get of %d bytes = %d, %d, %d; want 0, 0, ErrRange", len(key), value, probes, err)
			}
		}
	}
}

// B3.

func TestPutStoresInTheFirstUnusedSlotFromHome(t *testing.T) {
	for slots := 1; slots <= api.MaxSlots; slots++ {
		for start := range slots {
			// With one home for all keys, they lie in adjacent slots, over the end.
			keys := keysAt(slots, slices.Repeat([]int{start}, min(slots, 4))...)
			want := make([]api.Slot, slots)
			for i, key := range keys {
				want[(start+i)%slots] = used(key, i+1)
			}
			wantTable(t, "Put", fill(t, slots, keys...), api.OK, want)
		}
	}
}

func TestPutFillsGaps(t *testing.T) {
	keys := keysAt(4, 0, 2, 0, 0)
	wantTable(t, "Put", fill(t, 4, keys...), api.OK, []api.Slot{
		used(keys[0], 1), used(keys[2], 3), used(keys[1], 2), used(keys[3], 4),
	})
}

func TestPutOfAKeyThatIsThereKeepsItsSlot(t *testing.T) {
	full := placed("c", "b", keysAt(4, 3)[0], "a")
	for _, list := range [][]api.Slot{placed("a", "b", "c", ""), full, placed("a")} {
		for i, slot := range list {
			if !slot.Used {
				continue
			}
			for _, value := range []int{9, 0, api.MaxValue, -api.MaxValue} {
				want := slices.Clone(list)
				want[i].Value = value
				got, err := table.Put(list, slot.Key, value)
				wantTable(t, "Put again", got, err, want)
			}
		}
	}
}

func TestPutAcceptsAllKeysAndValuesInRange(t *testing.T) {
	for _, key := range []string{"", "a", "\x00", "\xff\xfe", "é", longest, strings.Repeat("\xff", api.MaxText)} {
		for _, value := range []int{0, 1, -1, api.MaxValue, -api.MaxValue} {
			got, err := table.Put(make([]api.Slot, 1), key, value)
			wantTable(t, "Put", got, err, []api.Slot{used(key, value)})
		}
	}
}

func TestPutRefuses(t *testing.T) {
	full := placed("a", "b", "c", keysAt(4, 3)[0])
	for _, list := range [][]api.Slot{make([]api.Slot, 4), placed("a", "b", "c", ""), full} {
		for _, key := range tooLongKeys() {
			got, err := table.Put(list, key, 1)
			wantError(t, "Put of a long key", got, err, api.ErrRange)
		}
		for _, value := range badValues() {
			for _, key := range []string{"a", "z"} {
				got, err := table.Put(list, key, value)
				wantError(t, fmt.Sprint("Put of value ", value), got, err, api.ErrRange)
			}
		}
	}
	for _, key := range []string{"z", "", longest} {
		got, err := table.Put(full, key, 1)
		wantError(t, "Put into a full table", got, err, api.ErrFull)
		got, err = table.Put(placed("a"), key, 1)
		wantError(t, "Put into a full slot", got, err, api.ErrFull)
	}
}

// Delete, which has no number in the document.

func TestDeleteOfKnownTables(t *testing.T) {
	// The homes of a, b and c in four slots are 0, 0 and 1.
	abc := placed("a", "b", "c", "")
	a, b, c := abc[0], abc[1], abc[2]
	around := keysAt(4, 3, 3, 0)
	wrapped := placed(around[1], around[2], "", around[0])
	apart := keysAt(6, 0, 2, 1, 0)
	for _, k := range []struct {
		what string
		list []api.Slot
		key  string
		want []api.Slot
	}{
		{"of the first", abc, "a", []api.Slot{b, c, {}, {}}},
		{"of the second", abc, "b", []api.Slot{a, c, {}, {}}},
		{"of the last", abc, "c", []api.Slot{a, b, {}, {}}},
		{"of the only slot", placed("a"), "a", make([]api.Slot, 1)},
		{"over the end", wrapped, around[0], []api.Slot{wrapped[1], {}, {}, wrapped[0]}},
		{"at the start", wrapped, around[1], []api.Slot{wrapped[1], {}, {}, wrapped[3]}},
		// Slots 1 and 2 have keys at their homes, which stay; the key of slot 3, whose
		// home is 0, still moves.
		{"past keys that stay", placed(apart[0], apart[2], apart[1], apart[3], "", ""), apart[0], []api.Slot{
			used(apart[3], 4), used(apart[2], 2), used(apart[1], 3), {}, {}, {},
		}},
	} {
		got, err := table.Delete(k.list, k.key)
		wantTable(t, "Delete "+k.what, got, err, k.want)
	}
}

func TestDeleteStopsAtAnUnusedSlot(t *testing.T) {
	keys := keysAt(6, 0, 2, 2)
	got, err := table.Delete(fill(t, 6, keys...), keys[0])
	wantTable(t, "Delete", got, err, []api.Slot{{}, {}, used(keys[1], 2), used(keys[2], 3), {}, {}})
}

func TestDeleteConsidersEachSlotOnceInAFullTable(t *testing.T) {
	// Put never arranges keys like this, but Check accepts them. After both moves
	// slot 0 has a key whose home is the empty slot; slot 0 does not follow itself.
	keys := keysAt(3, 0, 2, 1)
	full := placed(keys...)
	got, err := table.Delete(full, keys[0])
	wantTable(t, "Delete", got, err, []api.Slot{full[1], full[2], {}})

	// Here slot 1 would move a second time if it were considered again.
	keys = keysAt(4, 0, 2, 3, 3)
	full = placed(keys...)
	got, err = table.Delete(full, keys[0])
	wantTable(t, "Delete", got, err, []api.Slot{full[1], full[2], {}, full[3]})
}

func TestDeleteRefusesKeys(t *testing.T) {
	full := placed("a", "b", "c", keysAt(4, 3)[0])
	for _, list := range [][]api.Slot{make([]api.Slot, 4), placed("a", "b", "c", ""), full} {
		for _, key := range []string{"z", "", longest} {
			got, err := table.Delete(list, key)
			wantError(t, "Delete of a missing key", got, err, api.ErrNone)
		}
		for _, key := range tooLongKeys() {
			got, err := table.Delete(list, key)
			wantError(t, "Delete of a long key", got, err, api.ErrRange)
		}
	}
}

// slowDelete follows the document: it walks along the slots where the table
// computes with differences.
func slowDelete(list []api.Slot, key string) []api.Slot {
	n := len(list)
	list = slices.Clone(list)
	start := slices.IndexFunc(list, func(slot api.Slot) bool { return slot.Used && slot.Key == key })
	list[start] = api.Slot{}
	empty := start
	for k := 1; k < n; k++ {
		at := (start + k) % n
		if !list[at].Used {
			break
		}
		path := []int{home(list[at].Key, n)}
		for path[len(path)-1] != at {
			path = append(path, (path[len(path)-1]+1)%n)
		}
		if slices.Contains(path, empty) {
			list[empty] = list[at]
			list[at] = api.Slot{}
			empty = at
		}
	}
	return list
}

func TestDeleteFollowsTheDocumentInFullTables(t *testing.T) {
	source := rand.New(rand.NewSource(3))
	for range 3000 {
		list := make([]api.Slot, 1+source.Intn(8))
		for i, number := range source.Perm(100)[:len(list)] {
			list[i] = used(fmt.Sprint("k", number), number)
		}
		key := list[source.Intn(len(list))].Key
		got, err := table.Delete(list, key)
		wantTable(t, fmt.Sprintf("Delete(%v, %q)", list, key), got, err, slowDelete(list, key))
	}
}

// B4.

func TestResizePutsKeysInTheOrderOfTheirSlots(t *testing.T) {
	// The homes of a, b and c are 0, 0 and 1 in four slots and 0, 1 and 3 in eight.
	list := placed("a", "b", "c", "")
	a, b, c := list[0], list[1], list[2]
	for slots, want := range map[int][]api.Slot{
		4: list,
		8: {a, b, {}, c, {}, {}, {}, {}},
	} {
		got, err := table.Resize(list, slots)
		wantTable(t, fmt.Sprint("Resize to ", slots), got, err, want)
	}

	// Over the end, slot 0 is put first although it was put last before.
	keys := keysAt(4, 3, 3)
	wrapped := fill(t, 4, keys...)
	got, err := table.Resize(wrapped, 4)
	wantTable(t, "Resize to the same size", got, err, []api.Slot{used(keys[0], 1), {}, {}, used(keys[1], 2)})
}

func TestResizeToAllSizes(t *testing.T) {
	for count := range 5 {
		keys := []string{"", "a", "b", longest}[:count]
		list := fill(t, 9, keys...)
		for slots := 1; slots <= api.MaxSlots; slots++ {
			got, err := table.Resize(list, slots)
			if slots < len(keys) {
				wantError(t, "Resize to less", got, err, api.ErrFull)
				continue
			}
			want := make([]api.Slot, slots)
			for _, slot := range list {
				if !slot.Used {
					continue
				}
				at := home(slot.Key, slots)
				for want[at].Used {
					at = (at + 1) % slots
				}
				want[at] = slot
			}
			wantTable(t, fmt.Sprint("Resize to ", slots), got, err, want)
		}
	}
}

func TestResizeRefusesSizes(t *testing.T) {
	full := placed("a", "b", "c", keysAt(4, 3)[0])
	for _, list := range [][]api.Slot{make([]api.Slot, 4), placed("a", "b", "c", ""), full} {
		for _, slots := range []int{0, -1, api.MaxSlots + 1, math.MaxInt, math.MinInt} {
			got, err := table.Resize(list, slots)
			wantError(t, fmt.Sprint("Resize to ", slots), got, err, api.ErrRange)
		}
	}
	got, err := table.Resize(full, 3)
	wantError(t, "Resize of four keys to 3", got, err, api.ErrFull)
	got, err = table.Resize(full, 1)
	wantError(t, "Resize of four keys to 1", got, err, api.ErrFull)
}

// All together.

// agree compares a table with the values that it should have.
func agree(t *testing.T, list []api.Slot, want map[string]int) {
	t.Helper()
	if err := table.Check(list); err != api.OK {
		t.Fatalf("Check(%v) = %d", list, err)
	}
	count := 0
	for i, slot := range list {
		if !slot.Used {
			continue
		}
		count++
		value, probes, err := table.Get(list, slot.Key)
		expected, ok := want[slot.Key]
		if !ok || err != api.OK || value != expected || (home(slot.Key, len(list))+probes-1)%len(list) != i {
			t.Fatalf("Get(%v, %q) = %d, %d, %d; want %d at slot %d", list, slot.Key, value, probes, err, expected, i)
		}
	}
	if count != len(want) {
		t.Fatalf("%v has %d keys, want %d", list, count, len(want))
	}
}

func TestTableKeepsWhatIsPut(t *testing.T) {
	source := rand.New(rand.NewSource(4))
	for range 200 {
		list := make([]api.Slot, 1+source.Intn(api.MaxSlots))
		want := map[string]int{}
		for range 100 {
			key := fmt.Sprint(source.Intn(80))
			_, there := want[key]
			var next []api.Slot
			var err, expected api.Errno
			switch source.Intn(5) {
			case 0, 1, 2:
				value := source.Intn(1000) - 500
				next, err = table.Put(list, key, value)
				if !there && len(want) == len(list) {
					expected = api.ErrFull
				} else {
					want[key] = value
				}
			case 3:
				next, err = table.Delete(list, key)
				if there {
					wantTable(t, "Delete", next, err, slowDelete(list, key))
					delete(want, key)
				} else {
					expected = api.ErrNone
				}
			case 4:
				slots := 1 + source.Intn(api.MaxSlots)
				next, err = table.Resize(list, slots)
				if len(want) > slots {
					expected = api.ErrFull
				}
			}
			if err != expected {
				t.Fatalf("error %d, want %d", err, expected)
			}
			if err == api.OK {
				list = next
			}
			agree(t, list, want)
		}
	}
}

// P2.

func TestTablesAreNeitherChangedNorShared(t *testing.T) {
	whole := append(placed("a", "b", "c", ""), used("spare", 7), used("room", 8))
	list := whole[:4]
	before := slices.Clone(whole)
	for name, run := range map[string]func() ([]api.Slot, api.Errno){
		"Put":       func() ([]api.Slot, api.Errno) { return table.Put(list, "z", 5) },
		"Put again": func() ([]api.Slot, api.Errno) { return table.Put(list, "b", 5) },
		"Delete":    func() ([]api.Slot, api.Errno) { return table.Delete(list, "a") },
		"Resize":    func() ([]api.Slot, api.Errno) { return table.Resize(list, 4) },
		"Resize up": func() ([]api.Slot, api.Errno) { return table.Resize(list, 6) },
	} {
		got, err := run()
		if err != api.OK {
			t.Errorf("%s: error %d", name, err)
		}
		got = got[:cap(got)]
		for i := range got {
			got[i] = used("overwritten", -1)
		}
		if !slices.Equal(whole, before) {
			t.Fatalf("%s changes its argument: %v", name, whole)
		}
	}
	table.Check(list)
	table.Get(list, "b")
	if !slices.Equal(whole, before) {
		t.Errorf("Check or Get changes its argument: %v", whole)
	}
}
