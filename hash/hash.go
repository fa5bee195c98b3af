// Package hash is layer 1: 64-bit hashes.
package hash

import (
	"iter"
	"slices"
)

// multiplier is odd, so that a multiplication by it modulo 2^64 can be undone: otherwise mixing would not be a bijection.
const multiplier = 0x9E3779B97F4A7C15

const wordSize = 8

// Sum returns the hash of a label and words. The lengths are mixed in too, because without them neither the padding of
// the label nor the border between it and the words could be told.
func Sum(label string, words ...int) uint64 {
	state := uint64(0)
	for w := range wordsOf([]byte(label)) {
		state = mix(state, w)
	}
	state = mix(state, uint64(len(label)))
	state = mix(state, uint64(len(words)))
	for _, n := range words {
		state = mix(state, uint64(n))
	}
	return mix(state, 0)
}

// Bytes returns the hash of a label and bytes.
func Bytes(label string, b []byte) uint64 {
	words := make([]int, 0, len(b)/wordSize+2)
	for w := range wordsOf(b) {
		words = append(words, int(w))
	}
	return Sum(label, append(words, len(b))...)
}

// Pair returns the hash of two hashes.
func Pair(a, b uint64) uint64 {
	return Sum("pair", int(a), int(b))
}

func mix(state, word uint64) uint64 {
	m := (state ^ word) * multiplier
	return m ^ m>>32
}

// wordsOf yields the words of a byte slice.
func wordsOf(b []byte) iter.Seq[uint64] {
	return func(yield func(uint64) bool) {
		for group := range slices.Chunk(b, wordSize) {
			if !yield(littleEndian(group)) {
				return
			}
		}
	}
}

// littleEndian reads a group of at most 8 bytes; the ones that are missing count as zero.
func littleEndian(group []byte) uint64 {
	word := uint64(0)
	for i, c := range group {
		word |= uint64(c) << (8 * i)
	}
	return word
}
