package hash_test

import (
	"hash/fnv"
	"math"
	"math/big"
	"math/rand"
	"strings"
	"testing"

	"slopchest/api"
	"slopchest/hash"
)

// edges are numbers at which shifts, carries and signs change.
func edges() []uint64 {
	list := []uint64{0, math.MaxUint64, 0xaaaaaaaaaaaaaaaa, 0x5555555555555555}
	for bit := range 64 {
		one := uint64(1) << bit
		list = append(list, one, one-1, one+1, ^one)
	}
	return list
}

// samples are the edges and numbers from all over the range.
func samples(many int) []uint64 {
	source := rand.New(rand.NewSource(1))
	list := edges()
	for range many {
		list = append(list, source.Uint64())
	}
	return list
}

// texts are strings of every length up to MaxText, with bytes that are no UTF-8.
func texts() []string {
	source := rand.New(rand.NewSource(2))
	list := []string{"", "a", "foobar", "\x00", "\x00\x00", "\xff", "\x80\xfe", "é", "日本語", "a\x00b"}
	for size := range api.MaxText + 1 {
		text := make([]byte, size)
		source.Read(text)
		list = append(list, string(text), strings.Repeat("\xff", size), strings.Repeat("\x00", size))
	}
	return list
}

// tooLong are strings that Sum refuses.
func tooLong() []string {
	return []string{
		strings.Repeat("a", api.MaxText+1),
		strings.Repeat("\xff", api.MaxText+1),
		// Fewer runes than MaxText, but more bytes.
		strings.Repeat("é", api.MaxText/2+1),
		strings.Repeat("a", 1<<20),
	}
}

func TestSumOfKnownStrings(t *testing.T) {
	for text, want := range map[string]uint64{
		"":       14695981039346656037,
		"a":      12638187200555641996,
		"foobar": 9625390261332436968,
	} {
		if got, err := hash.Sum(text); got != want || err != api.OK {
			t.Errorf("Sum(%q) = %d, %d; want %d, OK", text, got, err, want)
		}
	}
}

func TestSumIsFNV1aOfBytes(t *testing.T) {
	for _, text := range texts() {
		h := fnv.New64a()
		h.Write([]byte(text))
		if got, err := hash.Sum(text); got != h.Sum64() || err != api.OK {
			t.Errorf("Sum(%q) = %d, %d; want %d, OK", text, got, err, h.Sum64())
		}
	}
}

func TestSumRefusesLongStrings(t *testing.T) {
	for _, text := range tooLong() {
		if got, err := hash.Sum(text); got != 0 || err != api.ErrMany {
			t.Errorf("Sum of %d bytes = %d, %d; want 0, ErrMany", len(text), got, err)
		}
	}
	for _, text := range []string{strings.Repeat("a", api.MaxText), strings.Repeat("é", api.MaxText/2)} {
		if _, err := hash.Sum(text); err != api.OK {
			t.Errorf("Sum of %d bytes: error %d, want OK", len(text), err)
		}
	}
}

func TestMixOfKnownNumbers(t *testing.T) {
	for n, want := range map[uint64]uint64{
		0:              0,
		1:              6238072747940578789,
		math.MaxUint64: 13029008266876403067,
	} {
		if got := hash.Mix(n); got != want {
			t.Errorf("Mix(%d) = %d, want %d", n, got, want)
		}
		if got := hash.Unmix(want); got != n {
			t.Errorf("Unmix(%d) = %d, want %d", want, got, n)
		}
	}
}

// slowMix follows the document with numbers of any size, reduced modulo 2^64.
func slowMix(n uint64) uint64 {
	modulus := new(big.Int).Lsh(big.NewInt(1), 64)
	value := new(big.Int).SetUint64(n)
	foldRight := func(by uint) {
		value.Xor(value, new(big.Int).Rsh(value, by))
	}
	times := func(factor string) {
		number, _ := new(big.Int).SetString(factor, 10)
		value.Mod(value.Mul(value, number), modulus)
	}
	foldRight(30)
	times("13787848793156543929")
	foldRight(27)
	times("10723151780598845931")
	foldRight(31)
	return value.Uint64()
}

func TestMixFollowsTheDocument(t *testing.T) {
	for _, n := range samples(2000) {
		if got, want := hash.Mix(n), slowMix(n); got != want {
			t.Errorf("Mix(%d) = %d, want %d", n, got, want)
		}
	}
}

func TestUnmixIsTheInverseOfMix(t *testing.T) {
	for _, n := range samples(100000) {
		if got := hash.Unmix(hash.Mix(n)); got != n {
			t.Fatalf("Unmix(Mix(%d)) = %d", n, got)
		}
		if got := hash.Mix(hash.Unmix(n)); got != n {
			t.Fatalf("Mix(Unmix(%d)) = %d", n, got)
		}
	}
}

func TestReduceOfKnownNumbers(t *testing.T) {
	for _, c := range []struct {
		n    uint64
		most int
		want int
	}{
		{0, 10, 0},
		{1 << 63, 10, 5},
		{1 << 62, 10, 2},
		{math.MaxUint64, 10, 9},
		{1<<32 - 1, 10, 0},
		{math.MaxUint64, 1, 0},
		{0, api.MaxKey, 0},
		{math.MaxUint64, api.MaxKey, api.MaxKey - 1},
		{1 << 63, api.MaxKey, api.MaxKey / 2},
		// The lower 32 bits do not count: a product of all 64 would carry.
		{1<<63 - 1, 2, 0},
		{1 << 63, 2, 1},
		{0x55555555ffffffff, 3, 0},
		{0x5555555600000000, 3, 1},
	} {
		if got, err := hash.Reduce(c.n, c.most); got != c.want || err != api.OK {
			t.Errorf("Reduce(%d, %d) = %d, %d; want %d, OK", c.n, c.most, got, err, c.want)
		}
	}
}

func TestReduceFollowsTheDocument(t *testing.T) {
	for _, most := range []int{1, 2, 3, 7, 10, 64, 1000, 1 << 16, api.MaxKey - 1, api.MaxKey} {
		for _, n := range samples(500) {
			product := new(big.Int).SetUint64(n >> 32)
			product.Mul(product, big.NewInt(int64(most)))
			want := int(product.Rsh(product, 32).Int64())
			got, err := hash.Reduce(n, most)
			if got != want || err != api.OK || got < 0 || got >= most {
				t.Errorf("Reduce(%d, %d) = %d, %d; want %d, OK", n, most, got, err, want)
			}
		}
	}
}

func TestReduceRefusesNumbersOutOfRange(t *testing.T) {
	for _, most := range []int{0, -1, -10, api.MaxKey + 1, 1 << 32, 1<<32 + 10, math.MaxInt, math.MinInt, math.MinInt + 10} {
		for _, n := range edges() {
			if got, err := hash.Reduce(n, most); got != 0 || err != api.ErrRange {
				t.Errorf("Reduce(%d, %d) = %d, %d; want 0, ErrRange", n, most, got, err)
			}
		}
	}
}

func TestSaltedOfKnownString(t *testing.T) {
	if got, err := hash.Salted("a", 3); got != 9577506316795567565 || err != api.OK {
		t.Errorf("Salted(a, 3) = %d, %d; want 9577506316795567565, OK", got, err)
	}
}

func TestSaltedMixesSumXorSalt(t *testing.T) {
	for _, text := range texts() {
		h := fnv.New64a()
		h.Write([]byte(text))
		for _, salt := range edges() {
			want := slowMix(h.Sum64() ^ salt)
			if got, err := hash.Salted(text, salt); got != want || err != api.OK {
				t.Errorf("Salted(%q, %d) = %d, %d; want %d, OK", text, salt, got, err, want)
			}
		}
	}
}

func TestSaltedRefusesLongStrings(t *testing.T) {
	for _, text := range tooLong() {
		for _, salt := range []uint64{0, 3, math.MaxUint64} {
			if got, err := hash.Salted(text, salt); got != 0 || err != api.ErrMany {
				t.Errorf("Salted of %d bytes = %d, %d; want 0, ErrMany", len(text), got, err)
			}
		}
	}
}
