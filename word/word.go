// Package word does arithmetic in free groups. See shared/doc/01-word.md.
package word

import (
	"cmp"
	"strconv"

	"cayley/api"
)

// caseBit is what a letter and its inverse differ in.
const caseBit = 'a' ^ 'A'

// letters has each letter at its index.
var letters = [2 * api.MaxGens]byte{
	'a', 'A', 'b', 'B', 'c', 'C', 'd', 'D', 'e', 'E', 'f', 'F', 'g', 'G', 'h', 'H',
}

// places has the index of each letter, plus 1, so that 0 is left for the bytes that are no letters.
var places = ['h' + 1]int8{
	'a': 1, 'A': 2, 'b': 3, 'B': 4, 'c': 5, 'C': 6, 'd': 7, 'D': 8,
	'e': 9, 'E': 10, 'f': 11, 'F': 12, 'g': 13, 'G': 14, 'h': 15, 'H': 16,
}

// Check returns OK for a word of k generators.
func Check(k int, w string) api.Errno {
	if k < 1 || k > api.MaxGens {
		return api.ErrArg
	}
	if len(w) > api.MaxWord {
		return api.ErrLimit
	}
	for i := range len(w) {
		if !isLetter(k, w[i]) {
			return api.ErrForm
		}
	}
	return api.OK
}

// isLetter reports whether a byte is a letter of k generators.
func isLetter(k int, b byte) bool {
	i := Index(b)
	return i >= 0 && i < 2*k
}

// isWord reports whether a string is a word of 8 generators.
func isWord(w string) bool {
	return Check(api.MaxGens, w) == api.OK
}

// Index returns the index of a letter of 8 generators, -1 for other bytes.
func Index(letter byte) int {
	if int(letter) >= len(places) {
		return -1
	}
	return int(places[letter]) - 1
}

// Letter returns the letter with an index, 0 for other numbers.
func Letter(index int) byte {
	if index < 0 || index >= len(letters) {
		return 0
	}
	return letters[index]
}

// Inverse returns the inverse of a word.
func Inverse(w string) string {
	if !isWord(w) {
		return ""
	}
	return inverse(w)
}

func inverse(w string) string {
	out := make([]byte, len(w))
	for i := range len(w) {
		out[len(w)-1-i] = w[i] ^ caseBit
	}
	return string(out)
}

// cancel reports whether two neighbours are a letter and its inverse.
func cancel(x, y byte) bool {
	return x^y == caseBit
}

// Reduce returns the free reduction of a word.
func Reduce(w string) string {
	if !isWord(w) {
		return ""
	}
	return reduce(w)
}

func reduce(w string) string {
	out := make([]byte, 0, len(w))
	for i := range len(w) {
		if last := len(out) - 1; last >= 0 && cancel(out[last], w[i]) {
			out = out[:last]
		} else {
			out = append(out, w[i])
		}
	}
	return string(out)
}

// appendReduced returns the free reduction of u followed by v, which are freely reduced: only where they meet can letters cancel. It uses the memory of u.
func appendReduced(u []byte, v string) []byte {
	for len(u) > 0 && v != "" && cancel(u[len(u)-1], v[0]) {
		u = u[:len(u)-1]
		v = v[1:]
	}
	return append(u, v...)
}

// Compare returns -1, 0 or 1 as u is ahead of v, the same, or behind v in shortlex.
func Compare(u, v string) int {
	if !isWord(u) || !isWord(v) {
		return 0
	}
	if len(u) != len(v) {
		return cmp.Compare(len(u), len(v))
	}
	for i := range len(u) {
		if u[i] != v[i] {
			return cmp.Compare(Index(u[i]), Index(v[i]))
		}
	}
	return 0
}

// Text returns the text of a word.
func Text(w string) string {
	if !isWord(w) {
		return ""
	}
	if w == "" {
		return "1"
	}
	var out []byte
	for start, end := 0, 0; start < len(w); start = end {
		for end < len(w) && w[end] == w[start] {
			end++
		}
		if start > 0 {
			out = append(out, ' ')
		}
		out = append(out, w[start])
		if n := end - start; n > 1 {
			out = append(out, '^')
			out = strconv.AppendInt(out, int64(n), 10)
		}
	}
	return string(out)
}
