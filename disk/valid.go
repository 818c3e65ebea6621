package disk

import "cayley/api"

// examine returns the first error of a presentation, of words and of disks over it, in this order.
func examine(p api.Presentation, words []string, disks ...[]api.Cell) api.Errno {
	if !isPresentation(p) {
		return api.ErrPres
	}
	for _, w := range words {
		if !isWord(p.Gens, w) {
			return api.ErrWord
		}
	}
	for _, d := range disks {
		if !isDisk(p, d) {
			return api.ErrCell
		}
	}
	return api.OK
}

// isPresentation reports whether a presentation is valid.
func isPresentation(p api.Presentation) bool {
	if p.Gens < 1 || p.Gens > api.MaxGens || len(p.Rels) > api.MaxRels {
		return false
	}
	for _, r := range p.Rels {
		if !isRelator(p.Gens, r) {
			return false
		}
	}
	return true
}

// isRelator reports whether a string is a freely reduced word that has as many letters as relators have.
func isRelator(gens int, r string) bool {
	return 1 <= len(r) && len(r) <= api.MaxRel && isWord(gens, r) && reduced(r) == r
}

// isWord reports whether a string is a word over the generators.
func isWord(gens int, w string) bool {
	if len(w) > api.MaxWord {
		return false
	}
	for i := range len(w) {
		if small := w[i] | caseBit; small < 'a' || int(small-'a') >= gens {
			return false
		}
	}
	return true
}

// isDisk reports whether cells are a valid disk over a valid presentation.
func isDisk(p api.Presentation, d []api.Cell) bool {
	if len(d) > api.MaxCells {
		return false
	}
	letters := 0
	for _, c := range d {
		letters += len(c.Conj)
		if letters > api.MaxConj || !isRel(p, c.Rel) || !isWord(p.Gens, c.Conj) {
			return false
		}
	}
	return true
}

// isRel reports whether a number is the index of a relator.
func isRel(p api.Presentation, rel int) bool {
	return 0 <= rel && rel < len(p.Rels)
}
