package disk

import (
	"slices"

	"cayley/api"
)

// caseBit is what a letter and its inverse differ in.
const caseBit = 'a' ^ 'A'

// appendReduced returns the free reduction of a freely reduced list followed by another list. It uses the memory of the first one.
func appendReduced[E comparable](out, list []E, inverse func(E) E) []E {
	for _, x := range list {
		if last := len(out) - 1; last >= 0 && out[last] == inverse(x) {
			out = out[:last]
		} else {
			out = append(out, x)
		}
	}
	return out
}

// inverseOf returns the inverse of a list: in reverse order, each element inverted.
func inverseOf[E any](list []E, inverse func(E) E) []E {
	out := slices.Clone(list)
	slices.Reverse(out)
	for i, x := range out {
		out[i] = inverse(x)
	}
	return out
}

func inverseLetter(letter byte) byte {
	return letter ^ caseBit
}

func inverseCell(c api.Cell) api.Cell {
	c.Inv = !c.Inv
	return c
}

// reduced returns the free reduction of a word.
func reduced(w string) string {
	return string(appendReduced(nil, []byte(w), inverseLetter))
}

// relator returns the relator with an index, or its inverse.
func relator(p api.Presentation, rel int, inv bool) []byte {
	r := []byte(p.Rels[rel])
	if inv {
		return inverseOf(r, inverseLetter)
	}
	return r
}

// letterWith returns the letter with an index.
func letterWith(index int) byte {
	small := 'a' + byte(index/2)
	if index%2 == 0 {
		return small
	}
	return inverseLetter(small)
}

// indexOf returns the index of a letter.
func indexOf(letter byte) int {
	small := letter | caseBit
	index := 2 * int(small-'a')
	if letter == small {
		return index
	}
	return index + 1
}
