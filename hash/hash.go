// Package hash is layer 1: 64-bit hashes.
package hash

import (
	"iter"
	"slices"
)

// multiplier is odd, so that multiplying by it loses nothing modulo 2^64.
const multiplier = 0x9E3779B97F4A7C15

// Sum returns the hash of a label and words.
func Sum(label string, words ...int) uint64 {
	var s uint64
	for w := range wordsOf([]byte(label)) {
		s = mix(s, w)
	}
	s = mix(s, uint64(len(label)))
	s = mix(s, uint64(len(words)))
	for _, n := range words {
		s = mix(s, uint64(n))
	}
	return mix(s, 0)
}

// Bytes returns the hash of a label and bytes.
func Bytes(label string, b []byte) uint64 {
	words := make([]int, 0, len(b)/8+2)
	for w := range wordsOf(b) {
		words = append(words, int(w))
	}
	return Sum(label, append(words, len(b))...)
}

// Pair returns the hash of two hashes.
func Pair(a, b uint64) uint64 {
	return Sum("pair", int(a), int(b))
}

func mix(s, w uint64) uint64 {
	m := (s ^ w) * multiplier
	return m ^ m>>32
}

// wordsOf yields the groups of 8 bytes of b in little-endian order; a shorter
// last group needs no padding, since missing bytes count as zero bytes.
func wordsOf(b []byte) iter.Seq[uint64] {
	return func(yield func(uint64) bool) {
		for group := range slices.Chunk(b, 8) {
			if !yield(littleEndian(group)) {
				return
			}
		}
	}
}

func littleEndian(group []byte) uint64 {
	var w uint64
	for i, c := range group {
		w |= uint64(c) << (8 * i)
	}
	return w
}
