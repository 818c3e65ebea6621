package pres

import (
	"cayley/api"
	"cayley/word"
)

// caseBit is what a letter and its inverse differ in.
const caseBit = 'a' ^ 'A'

// areCells reports whether cells are valid over a valid presentation.
func areCells(p api.Presentation, d []api.Cell) bool {
	if len(d) > api.MaxCells {
		return false
	}
	for _, c := range d {
		if !isRel(p, c.Rel) || word.Check(p.Gens, c.Conj) != api.OK {
			return false
		}
	}
	return true
}

// isRel reports whether a number is the index of a relator.
func isRel(p api.Presentation, rel int) bool {
	return 0 <= rel && rel < len(p.Rels)
}

// isDisk reports whether cells are a disk of a freely reduced word over a valid presentation.
func isDisk(p api.Presentation, d []api.Cell, w string) bool {
	return areCells(p, d) && string(boundary(p, d)) == w
}

// boundary returns the boundary of valid cells. It may have more letters than words have, so that it is reduced here.
func boundary(p api.Presentation, d []api.Cell) []byte {
	var out []byte
	for _, c := range d {
		r := p.Rels[c.Rel]
		if c.Inv {
			r = word.Inverse(r)
		}
		out = appendReduced(out, c.Conj)
		out = appendReduced(out, r)
		out = appendReduced(out, word.Inverse(c.Conj))
	}
	return out
}

// appendReduced returns the free reduction of a freely reduced word followed by a word.
func appendReduced(out []byte, w string) []byte {
	for i := range len(w) {
		if last := len(out) - 1; last >= 0 && out[last]^w[i] == caseBit {
			out = out[:last]
		} else {
			out = append(out, w[i])
		}
	}
	return out
}
