package fsa

import (
	"iter"
	"math/bits"
	"slices"
)

const (
	chunkBits = 64 // states of a chunk
	chunkText = 10 // bytes of a chunk in a key
)

// set is a set of states that are being collected: chunks of bits, and the numbers of those that are not 0.
type set struct {
	chunks []uint64
	used   []int
}

// newSet returns an empty set for the states below n.
func newSet(n int) set {
	return set{chunks: make([]uint64, (n+chunkBits-1)/chunkBits)}
}

// add adds a state.
func (s *set) add(member int) {
	chunk := member / chunkBits
	if s.chunks[chunk] == 0 {
		s.used = append(s.used, chunk)
	}
	s.chunks[chunk] |= 1 << (member % chunkBits)
}

// take empties the set and returns its key: the chunks that are not 0, in ascending order, each as its number in two bytes and its bits in eight. So keys of sets are equal if the sets are, and are short both for few states and for nearly all.
func (s *set) take() string {
	slices.Sort(s.used)
	key := make([]byte, 0, chunkText*len(s.used))
	for _, chunk := range s.used {
		key = append(key, byte(chunk>>8), byte(chunk))
		for shift := 0; shift < chunkBits; shift += 8 {
			key = append(key, byte(s.chunks[chunk]>>shift))
		}
		s.chunks[chunk] = 0
	}
	s.used = s.used[:0]
	return string(key)
}

// members yields the states of a set in ascending order.
func members(key string) iter.Seq[int] {
	return func(yield func(int) bool) {
		for ; len(key) > 0; key = key[chunkText:] {
			first := (int(key[0])<<8 | int(key[1])) * chunkBits
			for rest := chunkOf(key); rest != 0; rest &= rest - 1 {
				if !yield(first + bits.TrailingZeros64(rest)) {
					return
				}
			}
		}
	}
}

// chunkOf returns the bits of the first chunk of a key.
func chunkOf(key string) uint64 {
	chunk := uint64(0)
	for i := range chunkBits / 8 {
		chunk |= uint64(key[2+i]) << (8 * i)
	}
	return chunk
}
