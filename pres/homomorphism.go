package pres

import (
	"cayley/api"
	"cayley/word"
)

// Substitute returns the image of a word under a homomorphism of free groups.
func Substitute(k int, images []string, w string) (string, api.Errno) {
	if k < 1 || k > api.MaxGens || len(images) < 1 || len(images) > api.MaxGens {
		return "", api.ErrArg
	}
	if word.Check(len(images), w) != api.OK {
		return "", api.ErrForm
	}
	for _, image := range images {
		if word.Check(k, image) != api.OK {
			return "", api.ErrForm
		}
	}
	return newHomomorphism(images).image(w)
}

// homomorphism has the image of each letter at its index.
type homomorphism []string

// newHomomorphism returns the homomorphism with the given images of the generators.
func newHomomorphism(images []string) homomorphism {
	var h homomorphism
	for _, image := range images {
		h = append(h, image, word.Inverse(image))
	}
	return h
}

// image returns the image of a word, or ErrLimit if it has too many letters ahead of its reduction.
func (h homomorphism) image(w string) (string, api.Errno) {
	total := 0
	for i := range len(w) {
		total += len(h.of(w[i]))
	}
	if total > api.MaxWord {
		return "", api.ErrLimit
	}
	product := make([]byte, 0, total)
	for i := range len(w) {
		product = append(product, h.of(w[i])...)
	}
	return word.Reduce(string(product)), api.OK
}

// of returns the image of a letter.
func (h homomorphism) of(letter byte) string {
	return h[word.Index(letter)]
}
