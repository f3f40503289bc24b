package bloom_test

import (
	"fmt"
	"hash/fnv"
	"math"
	"math/rand"
	"slices"
	"strings"
	"testing"

	"slopchest/api"
	"slopchest/bloom"
	"slopchest/hash"
)

func filter(size, hashes int, set ...int) api.Filter {
	return api.Filter{Size: size, Hashes: hashes, Set: set}
}

// upTo are the numbers from 0 to n - 1.
func upTo(n int) []int {
	list := make([]int, n)
	for i := range list {
		list[i] = i
	}
	return list
}

// slowBits follows the document: it looks at all bits of the filter, and asks
// for each of them whether a hash function leads to it. The sum is that of the
// standard library.
func slowBits(size, hashes int, s string) []int {
	sum := fnv.New64a()
	sum.Write([]byte(s))
	var bits []int
	for bit := range size {
		for i := range hashes {
			n := hash.Mix(sum.Sum64() ^ uint64(i))
			if int((n>>32)*uint64(size)>>32) == bit {
				bits = append(bits, bit)
				break
			}
		}
	}
	return bits
}

// slowUnion are the bits from 0 to size - 1 that are in a or in b.
func slowUnion(size int, a, b []int) []int {
	var bits []int
	for bit := range size {
		if slices.Contains(a, bit) || slices.Contains(b, bit) {
			bits = append(bits, bit)
		}
	}
	return bits
}

// slowFold are the bits i, from 0 to size/2 - 1, for which 2i or 2i + 1 is in set.
func slowFold(size int, set []int) []int {
	var bits []int
	for i := range size / 2 {
		if slices.Contains(set, 2*i) || slices.Contains(set, 2*i+1) {
			bits = append(bits, i)
		}
	}
	return bits
}

func equal(a, b api.Filter) bool {
	return a.Size == b.Size && a.Hashes == b.Hashes && slices.Equal(a.Set, b.Set)
}

func wantFilter(t *testing.T, what string, got api.Filter, err api.Errno, want api.Filter) {
	t.Helper()
	if err != api.OK || !equal(got, want) {
		t.Errorf("%s = %v, %d; want %v, OK", what, got, err, want)
	}
}

func wantError(t *testing.T, what string, got api.Filter, err, want api.Errno) {
	t.Helper()
	if err != want || !equal(got, api.Filter{}) {
		t.Errorf("%s = %v, %d; want no filter, %d", what, got, err, want)
	}
}

// texts are strings of all kinds that can be added.
func texts() []string {
	list := []string{
		"", "a", "b", "c", "\x00", "\xff\xfe", "é",
		strings.Repeat("k", api.MaxText), strings.Repeat("\xff", api.MaxText), strings.Repeat("é", api.MaxText/2),
	}
	for i := range 30 {
		list = append(list, fmt.Sprint("key ", i))
	}
	return list
}

// tooLong are strings that cannot be added.
func tooLong() []string {
	// The second one has fewer runes than MaxText, but more bytes.
	return []string{strings.Repeat("k", api.MaxText+1), strings.Repeat("é", api.MaxText/2+1), strings.Repeat("\x00", 1<<20)}
}

// sizes are sizes of filters: the least, the greatest, odd and even ones.
func sizes() []int {
	return []int{1, 2, 3, 4, 5, 7, 8, 16, 63, 64, 100, 511, 512, api.MaxSize - 1, api.MaxSize}
}

// randomFilter returns a filter in which about every part-th bit is set.
func randomFilter(source *rand.Rand, size, hashes, part int) api.Filter {
	f := filter(size, hashes)
	for bit := range size {
		if source.Intn(part) == 0 {
			f.Set = append(f.Set, bit)
		}
	}
	return f
}

// badFilter is a filter that Check refuses.
type badFilter struct {
	name string
	f    api.Filter
	want api.Errno
}

// badFilters are filters with each of the errors of Check, alone and with others.
func badFilters() []badFilter {
	list := []badFilter{
		{"zero", api.Filter{}, api.ErrRange},
		{"one bit too many", filter(1, 1, 0, 0), api.ErrMany},
		{"all bits and one more", filter(api.MaxSize, 1, append(upTo(api.MaxSize), 0)...), api.ErrMany},
		{"the same bit twice", filter(8, 1, 3, 3), api.ErrState},
		{"bits that decrease", filter(8, 1, 5, 3), api.ErrState},
		{"bits that decrease at the end", filter(8, 8, 0, 1, 5, 7, 6), api.ErrState},
		{"greater than the first, not than the preceding one", filter(8, 1, 0, 5, 3), api.ErrState},
		// The errors of the whole filter come before those of its elements.
		{"size before many", filter(0, 1, 0), api.ErrRange},
		{"hashes before many", filter(1, 9, 0, 0), api.ErrRange},
		{"hashes before state", filter(8, 0, 3, 3), api.ErrRange},
		{"many before range", filter(1, 1, 5, -1), api.ErrMany},
		{"many before state", filter(2, 1, 1, 0, 0), api.ErrMany},
		// Of several elements the first one counts, and of one element the first error.
		{"state before range", filter(8, 1, 3, 3, 8), api.ErrState},
		{"range before state", filter(8, 1, 8, 3, 3), api.ErrRange},
		{"range and state", filter(8, 1, 3, -1), api.ErrRange},
		{"the same wrong bit twice", filter(8, 1, 8, 8), api.ErrRange},
	}
	for _, size := range []int{0, -1, api.MaxSize + 1, math.MinInt, math.MaxInt} {
		list = append(list, badFilter{fmt.Sprint("size ", size), filter(size, 1), api.ErrRange})
	}
	for _, hashes := range []int{0, -1, api.MaxHashes + 1, math.MinInt, math.MaxInt} {
		list = append(list, badFilter{fmt.Sprint("hashes ", hashes), filter(8, hashes), api.ErrRange})
	}
	for _, bit := range []int{-1, 8, 9, math.MinInt, math.MaxInt} {
		list = append(list,
			badFilter{fmt.Sprint("bit ", bit), filter(8, 1, bit), api.ErrRange},
			badFilter{fmt.Sprint("bit 3 and ", bit), filter(8, 1, 3, bit), api.ErrRange})
	}
	return list
}

// C1.

func TestCheckRefuses(t *testing.T) {
	for _, c := range badFilters() {
		if got := bloom.Check(c.f); got != c.want {
			t.Errorf("Check, %s: %d, want %d", c.name, got, c.want)
		}
	}
}

func TestCheckAccepts(t *testing.T) {
	for _, size := range sizes() {
		for hashes := 1; hashes <= api.MaxHashes; hashes++ {
			for _, set := range [][]int{nil, {}, {0}, {size - 1}, upTo(size)} {
				if got := bloom.Check(filter(size, hashes, set...)); got != api.OK {
					t.Errorf("Check of size %d, hashes %d, set %v: %d, want OK", size, hashes, set, got)
				}
			}
		}
	}
}

func TestAllFunctionsFirstReturnTheErrorOfCheck(t *testing.T) {
	good := filter(8, 1, 3)
	for _, c := range badFilters() {
		for _, s := range append(tooLong(), "a", "") {
			if got, err := bloom.Bits(c.f, s); len(got) != 0 || err != c.want {
				t.Errorf("Bits, %s: %v, %d; want none, %d", c.name, got, err, c.want)
			}
			if got, err := bloom.MayContain(c.f, s); got || err != c.want {
				t.Errorf("MayContain, %s: %v, %d; want false, %d", c.name, got, err, c.want)
			}
			got, err := bloom.Add(c.f, s)
			wantError(t, "Add, "+c.name, got, err, c.want)
		}
		got, err := bloom.Fold(c.f)
		wantError(t, "Fold, "+c.name, got, err, c.want)
		got, err = bloom.Union(c.f, good)
		wantError(t, "Union, first "+c.name, got, err, c.want)
		got, err = bloom.Union(good, c.f)
		wantError(t, "Union, second "+c.name, got, err, c.want)
		// Where both are refused, the first one counts.
		for _, other := range badFilters() {
			got, err := bloom.Union(c.f, other.f)
			wantError(t, "Union, "+c.name+", "+other.name, got, err, c.want)
		}
	}
}

// C2.

func TestBitsOfKnownStrings(t *testing.T) {
	for _, c := range []struct {
		f    api.Filter
		s    string
		want []int
	}{
		{filter(16, 3), "a", []int{0, 4, 8}},
		{filter(16, 3, 1, 2), "a", []int{0, 4, 8}},
		{filter(16, 3), "b", []int{3, 9, 11}},
		{filter(1, 8), "a", []int{0}},
	} {
		if got, err := bloom.Bits(c.f, c.s); err != api.OK || !slices.Equal(got, c.want) {
			t.Errorf("Bits(%v, %q) = %v, %d; want %v, OK", c.f, c.s, got, err, c.want)
		}
	}
}

func TestBitsFollowTheDocument(t *testing.T) {
	fewer := false
	for _, size := range sizes() {
		for hashes := 1; hashes <= api.MaxHashes; hashes++ {
			for _, s := range texts() {
				want := slowBits(size, hashes, s)
				fewer = fewer || size > 1 && len(want) < hashes
				// The bits do not depend on those that are set.
				for _, set := range [][]int{nil, {size - 1}, upTo(size)} {
					got, err := bloom.Bits(filter(size, hashes, set...), s)
					if err != api.OK || !slices.Equal(got, want) {
						t.Errorf("Bits of size %d, hashes %d, %q: %v, %d; want %v, OK", size, hashes, s, got, err, want)
					}
				}
			}
		}
	}
	if !fewer {
		t.Error("no two hash functions led to the same bit: this was not tested")
	}
}

func TestAddSetsTheBitsAsWell(t *testing.T) {
	source := rand.New(rand.NewSource(1))
	for _, size := range sizes() {
		for hashes := 1; hashes <= api.MaxHashes; hashes++ {
			for _, s := range texts() {
				f := randomFilter(source, size, hashes, 1+source.Intn(6))
				want := filter(size, hashes, slowUnion(size, f.Set, slowBits(size, hashes, s))...)
				got, err := bloom.Add(f, s)
				wantFilter(t, fmt.Sprintf("Add(%v, %q)", f, s), got, err, want)
				again, err := bloom.Add(got, s)
				wantFilter(t, fmt.Sprintf("Add(%v, %q) again", got, s), again, err, want)
			}
		}
	}
}

func TestMayContainReportsWhetherAllBitsAreSet(t *testing.T) {
	source := rand.New(rand.NewSource(2))
	count := map[bool]int{}
	for _, size := range sizes() {
		for hashes := 1; hashes <= api.MaxHashes; hashes++ {
			for _, s := range texts() {
				f := randomFilter(source, size, hashes, 1+source.Intn(3))
				want := true
				for _, bit := range slowBits(size, hashes, s) {
					want = want && slices.Contains(f.Set, bit)
				}
				count[want]++
				if got, err := bloom.MayContain(f, s); got != want || err != api.OK {
					t.Errorf("MayContain(%v, %q) = %v, %d; want %v, OK", f, s, got, err, want)
				}
			}
		}
	}
	if count[true] == 0 || count[false] == 0 {
		t.Errorf("not all cases were tested: %v", count)
	}
}

func TestMayContainNeedsEachBit(t *testing.T) {
	for _, s := range texts() {
		bits := slowBits(64, api.MaxHashes, s)
		for i := range bits {
			f := filter(64, api.MaxHashes, slices.Delete(upTo(64), bits[i], bits[i]+1)...)
			if got, err := bloom.MayContain(f, s); got || err != api.OK {
				t.Errorf("MayContain(%q) without bit %d = %v, %d; want false, OK", s, bits[i], got, err)
			}
		}
		if got, err := bloom.MayContain(filter(64, api.MaxHashes, bits...), s); !got || err != api.OK {
			t.Errorf("MayContain(%q) with its bits alone = %v, %d; want true, OK", s, got, err)
		}
		if got, err := bloom.MayContain(filter(64, api.MaxHashes), s); got || err != api.OK {
			t.Errorf("MayContain(%q) of the empty filter = %v, %d; want false, OK", s, got, err)
		}
	}
}

func TestLongStringsAreRefused(t *testing.T) {
	for _, f := range []api.Filter{filter(1, 1), filter(16, 3, 1, 2), filter(api.MaxSize, api.MaxHashes, upTo(api.MaxSize)...)} {
		for _, s := range tooLong() {
			if got, err := bloom.Bits(f, s); len(got) != 0 || err != api.ErrMany {
				t.Errorf("Bits of %d bytes: %v, %d; want none, ErrMany", len(s), got, err)
			}
			if got, err := bloom.MayContain(f, s); got || err != api.ErrMany {
				t.Errorf("MayContain of %d bytes: %v, %d; want false, ErrMany", len(s), got, err)
			}
			got, err := bloom.Add(f, s)
			wantError(t, fmt.Sprintf("Add of %d bytes", len(s)), got, err, api.ErrMany)
		}
	}
}

// addAll adds strings to an empty filter.
func addAll(t *testing.T, size, hashes int, list []string) api.Filter {
	t.Helper()
	f := filter(size, hashes)
	for _, s := range list {
		var err api.Errno
		if f, err = bloom.Add(f, s); err != api.OK {
			t.Fatalf("Add(%q): error %d", s, err)
		}
	}
	return f
}

func wantAll(t *testing.T, what string, f api.Filter, list []string) {
	t.Helper()
	for _, s := range list {
		if got, err := bloom.MayContain(f, s); !got || err != api.OK {
			t.Errorf("%s: MayContain(%v, %q) = %v, %d; want true, OK", what, f, s, got, err)
		}
	}
}

func TestThereAreNoFalseNegatives(t *testing.T) {
	all := texts()
	for _, size := range sizes() {
		for hashes := 1; hashes <= api.MaxHashes; hashes++ {
			what := fmt.Sprintf("size %d, hashes %d", size, hashes)
			f := addAll(t, size, hashes, all)
			wantAll(t, what, f, all)
			a, b := addAll(t, size, hashes, all[:20]), addAll(t, size, hashes, all[20:])
			both, err := bloom.Union(a, b)
			wantFilter(t, what+": Union", both, err, f)
			for f.Size%2 == 0 {
				if f, err = bloom.Fold(f); err != api.OK {
					t.Fatalf("%s: Fold: error %d", what, err)
				}
				// A folded filter is the one to which the strings were added at its size.
				wantFilter(t, what+": Fold", f, err, addAll(t, f.Size, hashes, all))
				wantAll(t, what+", folded", f, all)
			}
		}
	}
}

func TestFiltersDoNotContainEverything(t *testing.T) {
	f := addAll(t, api.MaxSize, 4, texts())
	found := 0
	for i := range 1000 {
		if got, _ := bloom.MayContain(f, fmt.Sprint("other ", i)); got {
			found++
		}
	}
	if found > 20 {
		t.Errorf("MayContain is true for %d of 1000 strings that were not added", found)
	}
}

// C3.

func TestUnionOfKnownFilters(t *testing.T) {
	for _, c := range []struct{ a, b, want []int }{
		{nil, nil, nil},
		{[]int{0, 4, 8}, []int{3, 9, 11}, []int{0, 3, 4, 8, 9, 11}},
		{[]int{0, 4, 8}, nil, []int{0, 4, 8}},
		{[]int{1, 2}, []int{1, 2}, []int{1, 2}},
		{[]int{0, 1, 2}, []int{1, 15}, []int{0, 1, 2, 15}},
		{upTo(16), []int{7}, upTo(16)},
		{upTo(8), []int{8, 9, 10, 11, 12, 13, 14, 15}, upTo(16)},
	} {
		for _, hashes := range []int{1, 3, api.MaxHashes} {
			a, b, want := filter(16, hashes, c.a...), filter(16, hashes, c.b...), filter(16, hashes, c.want...)
			got, err := bloom.Union(a, b)
			wantFilter(t, fmt.Sprintf("Union(%v, %v)", a, b), got, err, want)
			got, err = bloom.Union(b, a)
			wantFilter(t, fmt.Sprintf("Union(%v, %v)", b, a), got, err, want)
		}
	}
}

func TestUnionFollowsTheDocument(t *testing.T) {
	source := rand.New(rand.NewSource(3))
	for _, size := range sizes() {
		for hashes := 1; hashes <= api.MaxHashes; hashes++ {
			a := randomFilter(source, size, hashes, 1+source.Intn(4))
			b := randomFilter(source, size, hashes, 1+source.Intn(4))
			got, err := bloom.Union(a, b)
			wantFilter(t, fmt.Sprintf("Union(%v, %v)", a, b), got, err, filter(size, hashes, slowUnion(size, a.Set, b.Set)...))
		}
	}
}

func TestUnionRefusesUnlikeFilters(t *testing.T) {
	for _, c := range [][2]api.Filter{
		{filter(16, 3), filter(16, 2)},
		{filter(16, 3), filter(8, 3)},
		{filter(16, 3), filter(8, 2)},
		// The same in another order: 3 and 8 are both a size and a number of hashes.
		{filter(3, 8), filter(8, 3)},
		{filter(16, 3, 1, 2), filter(16, 4, 1, 2)},
		{filter(1, 1), filter(api.MaxSize, api.MaxHashes)},
	} {
		got, err := bloom.Union(c[0], c[1])
		wantError(t, fmt.Sprintf("Union(%v, %v)", c[0], c[1]), got, err, api.ErrKind)
		got, err = bloom.Union(c[1], c[0])
		wantError(t, fmt.Sprintf("Union(%v, %v)", c[1], c[0]), got, err, api.ErrKind)
	}
}

// Fold, which has no number in the document.

func TestFoldOfKnownFilters(t *testing.T) {
	for _, c := range []struct{ f, want api.Filter }{
		{filter(8, 1, 1, 6, 7), filter(4, 1, 0, 3)},
		{filter(8, 5, 0, 1, 2, 3), filter(4, 5, 0, 1)},
		{filter(2, 8), filter(1, 8)},
		{filter(2, 1, 0), filter(1, 1, 0)},
		{filter(2, 1, 1), filter(1, 1, 0)},
		{filter(2, 1, 0, 1), filter(1, 1, 0)},
		{filter(6, 2, 2, 5), filter(3, 2, 1, 2)},
		{filter(api.MaxSize, 8, upTo(api.MaxSize)...), filter(api.MaxSize/2, 8, upTo(api.MaxSize/2)...)},
	} {
		got, err := bloom.Fold(c.f)
		wantFilter(t, fmt.Sprintf("Fold(%v)", c.f), got, err, c.want)
	}
}

func TestFoldFollowsTheDocument(t *testing.T) {
	source := rand.New(rand.NewSource(4))
	for size := 2; size <= api.MaxSize; size += 2 {
		f := randomFilter(source, size, 1+source.Intn(api.MaxHashes), 1+source.Intn(6))
		got, err := bloom.Fold(f)
		wantFilter(t, fmt.Sprintf("Fold(%v)", f), got, err, filter(size/2, f.Hashes, slowFold(size, f.Set)...))
	}
}

func TestFoldRefusesOddSizes(t *testing.T) {
	for size := 1; size < api.MaxSize; size += 2 {
		for _, set := range [][]int{nil, {0}, upTo(size)} {
			got, err := bloom.Fold(filter(size, 2, set...))
			wantError(t, fmt.Sprintf("Fold of size %d", size), got, err, api.ErrState)
		}
	}
}

// P2.

func TestFiltersAreNeitherChangedNorShared(t *testing.T) {
	whole := []int{1, 2, 6, 99, 98, 97, 96, 95, 94}
	other := []int{3, 6, 89, 88, 87, 86, 85}
	a, b := filter(16, 3, whole[:3]...), filter(16, 3, other[:2]...)
	empty := filter(16, 3, whole[:0]...)
	wholeBefore, otherBefore := slices.Clone(whole), slices.Clone(other)
	set := func(f api.Filter, err api.Errno) ([]int, api.Errno) { return f.Set, err }
	for name, run := range map[string]func() ([]int, api.Errno){
		"Bits":                func() ([]int, api.Errno) { return bloom.Bits(a, "a") },
		"Add":                 func() ([]int, api.Errno) { return set(bloom.Add(a, "a")) },
		"Add to empty":        func() ([]int, api.Errno) { return set(bloom.Add(empty, "a")) },
		"Union":               func() ([]int, api.Errno) { return set(bloom.Union(a, b)) },
		"Union with itself":   func() ([]int, api.Errno) { return set(bloom.Union(a, a)) },
		"Union with empty":    func() ([]int, api.Errno) { return set(bloom.Union(a, empty)) },
		"Union of empty":      func() ([]int, api.Errno) { return set(bloom.Union(empty, b)) },
		"Union of both empty": func() ([]int, api.Errno) { return set(bloom.Union(empty, empty)) },
		"Fold":                func() ([]int, api.Errno) { return set(bloom.Fold(a)) },
		"Fold of empty":       func() ([]int, api.Errno) { return set(bloom.Fold(empty)) },
	} {
		got, err := run()
		if err != api.OK {
			t.Errorf("%s: error %d", name, err)
		}
		got = got[:cap(got)]
		for i := range got {
			got[i] = -7
		}
		if !slices.Equal(whole, wholeBefore) || !slices.Equal(other, otherBefore) {
			t.Fatalf("%s changes its argument: %v, %v", name, whole, other)
		}
	}
	bloom.Check(a)
	bloom.MayContain(a, "a")
	if !slices.Equal(whole, wholeBefore) {
		t.Errorf("Check or MayContain changes its argument: %v", whole)
	}
}

func TestAddOfAStringThatIsThereReturnsNewMemory(t *testing.T) {
	f := addAll(t, 16, 3, []string{"a"})
	before := slices.Clone(f.Set)
	got, err := bloom.Add(f, "a")
	wantFilter(t, "Add again", got, err, f)
	got.Set[0] = -7
	if !slices.Equal(f.Set, before) {
		t.Errorf("the result of Add shares memory with its argument: %v", f.Set)
	}
}
