// Package hash: hash functions: see doc/01-hash.md.
package hash

import "slopchest/api"

// Constants of FNV-1a.
const (
	sumStart  uint64 = 14695981039346656037
	sumFactor uint64 = 1099511628211
)

// Constants of Mix. The factors are odd, so each has an inverse modulo 2^64:
// a factor times its inverse is 1.
const (
	firstShift  = 30
	secondShift = 27
	thirdShift  = 31

	firstFactor   uint64 = 13787848793156543929
	secondFactor  uint64 = 10723151780598845931
	firstInverse  uint64 = 10871156337175269513
	secondInverse uint64 = 3573116690164977347
)

// Sum returns the FNV-1a hash of the bytes of s (A1).
func Sum(s string) (uint64, api.Errno) {
	if len(s) > api.MaxText {
		return 0, api.ErrMany
	}
	sum := sumStart
	// By index, because ranging over the string would yield runes, not bytes.
	for i := range len(s) {
		sum = (sum ^ uint64(s[i])) * sumFactor
	}
	return sum, api.OK
}

// Mix scatters the bits of n; it is a bijection (A2).
func Mix(n uint64) uint64 {
	n = (n ^ n>>firstShift) * firstFactor
	n = (n ^ n>>secondShift) * secondFactor
	return n ^ n>>thirdShift
}

// Unmix is the inverse of Mix: it undoes the steps of Mix, the last one first (A2).
func Unmix(n uint64) uint64 {
	n = unshift(n, thirdShift)
	n = unshift(n*secondInverse, secondShift)
	return unshift(n*firstInverse, firstShift)
}

// unshift returns the m for which m ^ m>>shift is n; shift is at least 1.
// In the xor of n, n>>shift, n>>2*shift and so on, all but the first m cancel
// in pairs.
func unshift(n uint64, shift int) uint64 {
	m := n
	for by := shift; by < 64; by += shift {
		m ^= n >> by
	}
	return m
}

// Reduce maps a hash to a number from 0 to most - 1 (A3).
func Reduce(n uint64, most int) (int, api.Errno) {
	if most < 1 || most > api.MaxKey {
		return 0, api.ErrRange
	}
	// Below 2^32 times at most 2^20: the product cannot overflow.
	return int(((n >> 32) * uint64(most)) >> 32), api.OK
}

// Salted returns the mixed hash of s, another one for each salt.
func Salted(s string, salt uint64) (uint64, api.Errno) {
	sum, err := Sum(s)
	if err != api.OK {
		return 0, err
	}
	return Mix(sum ^ salt), api.OK
}
