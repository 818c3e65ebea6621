package word

import (
	"iter"
	"strings"

	"cayley/api"
)

// Cyclic returns the core of a word, and its conjugator.
func Cyclic(w string) (core, conj string) {
	if !isWord(w) {
		return "", ""
	}
	return split(reduce(w))
}

// split returns the core and the conjugator of a freely reduced word.
func split(w string) (core, conj string) {
	first, last := 0, len(w)-1
	for first < last && cancel(w[first], w[last]) {
		first++
		last--
	}
	return w[first : last+1], w[:first]
}

// Form returns the cyclic form of a word.
func Form(w string) string {
	core, _ := Cyclic(w)
	start := leastRotation(core)
	return core[start:] + core[:start]
}

// leastRotation returns where the least rotation of a word begins. It holds two candidates against each other; where they first differ, all rotations that begin in the loser's part that has been compared lose too, so that the steps are linear in the word's length.
func leastRotation(w string) int {
	n := len(w)
	i, j, same := 0, 1, 0
	for i < n && j < n && same < n {
		x, y := Index(w[(i+same)%n]), Index(w[(j+same)%n])
		if x == y {
			same++
			continue
		}
		if x > y {
			i += same + 1
		} else {
			j += same + 1
		}
		if i == j {
			j++
		}
		same = 0
	}
	return min(i, j)
}

// rotations yields the rotations of a word: its last i letters put in front, for i from 1 to its length, where it is the word again.
func rotations(w string) iter.Seq2[int, string] {
	return func(yield func(int, string) bool) {
		twice := w + w
		for i := 1; i <= len(w); i++ {
			start := len(w) - i
			if !yield(i, twice[start:start+len(w)]) {
				return
			}
		}
	}
}

// period returns the length of the shortest word of which w is a power; it divides the length of w. It is 0 for the empty word.
func period(w string) int {
	for i, rotated := range rotations(w) {
		if len(w)%i == 0 && rotated == w {
			return i
		}
	}
	return 0
}

// Root returns the root of a word, and its number.
func Root(w string) (string, int) {
	core, conj := Cyclic(w)
	if core == "" {
		return "", 0
	}
	n := period(core)
	return conj + core[:n] + inverse(conj), len(core) / n
}

// Power returns the free reduction of the n-th power of a word.
func Power(w string, n int) (string, api.Errno) {
	if !isWord(w) {
		return "", api.ErrForm
	}
	core, conj := Cyclic(w)
	if core == "" {
		return "", api.OK
	}
	if most := (api.MaxWord - 2*len(conj)) / len(core); n > most || n < -most {
		return "", api.ErrLimit
	}
	return power(core, conj, n), api.OK
}

// power returns the free reduction of the n-th power of the word with this core and this conjugator.
func power(core, conj string, n int) string {
	if n == 0 || core == "" {
		return ""
	}
	if n < 0 {
		core, n = inverse(core), -n
	}
	return conj + strings.Repeat(core, n) + inverse(conj)
}

// Conjugate reports whether u and v are conjugate in the free group, and returns some x with u equal to x v x^-1.
func Conjugate(u, v string) (x string, is bool) {
	if !isWord(u) || !isWord(v) || Form(u) != Form(v) {
		return "", false
	}
	coreU, conjU := Cyclic(u)
	coreV, conjV := Cyclic(v)
	shift := leastRotation(coreV) - leastRotation(coreU)
	if shift < 0 {
		shift += len(coreV)
	}
	// u's core is that of v with its first letters, shift of them, put behind.
	return reduce(conjU + inverse(coreV[:shift]) + inverse(conjV)), true
}
