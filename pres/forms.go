package pres

import (
	"iter"
	"maps"
	"slices"

	"cayley/api"
	"cayley/word"
)

// Canonical returns the canonical form of a presentation.
func Canonical(p api.Presentation) (api.Presentation, api.Errno) {
	if err := Check(p); err != api.OK {
		return api.Presentation{}, err
	}
	met := map[string]bool{}
	for _, r := range p.Rels {
		met[canonicalRelator(r)] = true
	}
	return api.Presentation{Gens: p.Gens, Rels: ascending(met)}, api.OK
}

// canonicalRelator returns the lesser one of the cyclic forms of a relator and of its inverse. It is not empty, since a relator is freely reduced and has letters.
func canonicalRelator(r string) string {
	form, other := word.Form(r), word.Form(word.Inverse(r))
	if word.Compare(other, form) < 0 {
		return other
	}
	return form
}

// ascending returns the words that were met in shortlex order.
func ascending(met map[string]bool) []string {
	return slices.SortedFunc(maps.Keys(met), word.Compare)
}

// Symmetrized returns the symmetrized closure of the relators.
func Symmetrized(p api.Presentation) ([]string, api.Errno) {
	if err := Check(p); err != api.OK {
		return nil, err
	}
	met := map[string]bool{}
	for _, r := range p.Rels {
		core, _ := word.Cyclic(r)
		for w := range rotations(core) {
			met[w] = true
			met[word.Inverse(w)] = true
		}
	}
	return ascending(met), api.OK
}

// rotations yields the rotations of a word.
func rotations(w string) iter.Seq[string] {
	return func(yield func(rotation string) bool) {
		for i := range len(w) {
			if !yield(w[i:] + w[:i]) {
				return
			}
		}
	}
}
