package abel

import (
	"cayley/api"
	"cayley/pres"
	"cayley/word"
)

// examine returns the exponent sums of the relators, or the error of a presentation.
func examine(p api.Presentation) (matrix, api.Errno) {
	if pres.Check(p) != api.OK {
		return nil, api.ErrForm
	}
	relators := make(matrix, len(p.Rels))
	for i, r := range p.Rels {
		relators[i] = exponents(r)
	}
	if size(p.Gens, relators) > api.MaxAbel {
		return nil, api.ErrLimit
	}
	return relators, api.OK
}

// exponents returns the exponent sums of a word.
func exponents(w string) row {
	var out row
	for i := range len(w) {
		index := word.Index(w[i])
		if index%2 == 0 {
			out.entries[index/2]++
		} else {
			out.entries[index/2]--
		}
	}
	return out
}

// size returns the size of a presentation. With the most letters and generators it is 200^8, which is an int.
func size(k int, relators matrix) int {
	most := 1
	for _, r := range relators {
		most = max(most, r.norm())
	}
	out := 1
	for range k {
		out *= most
	}
	return out
}
