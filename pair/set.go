package pair

import (
	"iter"
	"math/bits"
	"slices"
)

const (
	chunkBits  = 64 // numbers of a chunk
	chunkPlace = 4  // bytes of the place of a chunk in a key
	chunkText  = 12 // bytes of a chunk in a key
)

// set is a set of numbers that are being collected: chunks of bits, and the places of those that are not 0. It has a flag, too.
type set struct {
	chunks []uint64
	used   []int
	flag   bool
}

func (s *set) add(number int32) {
	place := int(number / chunkBits)
	for place >= len(s.chunks) {
		s.chunks = append(s.chunks, 0)
	}
	if s.chunks[place] == 0 {
		s.used = append(s.used, place)
	}
	s.chunks[place] |= 1 << (number % chunkBits)
}

// take empties the set and returns its key: the flag, and the chunks that are not 0 in ascending order of their places, each as its place and its bits. So keys are equal if the sets are, and are short both for few numbers and for nearly all. The empty set without flag has the empty key.
func (s *set) take() string {
	if len(s.used) == 0 && !s.flag {
		return ""
	}
	slices.Sort(s.used)
	key := make([]byte, 1, 1+chunkText*len(s.used))
	if s.flag {
		key[0] = 1
	}
	for _, place := range s.used {
		key = appendBytes(key, uint64(place), chunkPlace)
		key = appendBytes(key, s.chunks[place], chunkText-chunkPlace)
		s.chunks[place] = 0
	}
	s.used = s.used[:0]
	s.flag = false
	return string(key)
}

// hasFlag returns the flag of the set with a key.
func hasFlag(key string) bool {
	return key != "" && key[0] == 1
}

// members yields the numbers in the set with a key.
func members(key string) iter.Seq[int32] {
	return func(yield func(int32) bool) {
		for at := 1; at < len(key); at += chunkText {
			base := int32(readBytes(key[at:at+chunkPlace])) * chunkBits
			for rest := readBytes(key[at+chunkPlace : at+chunkText]); rest != 0; rest &= rest - 1 {
				if !yield(base + int32(bits.TrailingZeros64(rest))) {
					return
				}
			}
		}
	}
}

// appendBytes appends the lowest bytes of a number, the lowest one first.
func appendBytes(out []byte, number uint64, bytes int) []byte {
	for range bytes {
		out = append(out, byte(number))
		number >>= 8
	}
	return out
}

func readBytes(text string) uint64 {
	number := uint64(0)
	for i := range len(text) {
		number |= uint64(text[i]) << (8 * i)
	}
	return number
}
