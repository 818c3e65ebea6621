package pres

import (
	"slices"
	"strings"

	"cayley/api"
	"cayley/word"
)

// Move carries out a Tietze move.
func Move(p api.Presentation, m api.Tietze) (q api.Presentation, forward, backward []string, err api.Errno) {
	c, err := newChange(p, m)
	if err != api.OK {
		return api.Presentation{}, nil, nil, err
	}
	forward, backward = c.maps()
	return c.target(), forward, backward, api.OK
}

// change is a move that is possible, with what it needs for its work: an addRel, a dropRel, an addGen or a dropGen.
type change interface {
	// target returns the presentation to which the move leads.
	target() api.Presentation
	// maps returns the homomorphisms to the words of the target and back.
	maps() (forward, backward []string)
}

// goal is the presentation to which a move leads.
type goal struct {
	q api.Presentation
}

func (g goal) target() api.Presentation {
	return g.q
}

// addRel puts a relator behind the others.
type addRel struct {
	goal
}

func (a addRel) maps() (forward, backward []string) {
	return letters(a.q.Gens), letters(a.q.Gens)
}

// dropRel removes the relator rel, of which proof is a disk over the target.
type dropRel struct {
	goal
	rel   int
	proof []api.Cell
}

func (r dropRel) maps() (forward, backward []string) {
	return letters(r.q.Gens), letters(r.q.Gens)
}

// addGen adds a generator that is equal to a word.
type addGen struct {
	goal
	word string
}

func (a addGen) maps() (forward, backward []string) {
	old := a.q.Gens - 1
	return letters(old), append(letters(old), a.word)
}

// dropGen removes the last generator, of which forward has the image. For each relator that there was, places has the index of its image, or -1 if it is left out.
type dropGen struct {
	goal
	forward []string
	places  []int
}

func (r dropGen) maps() (forward, backward []string) {
	return r.forward, letters(r.q.Gens)
}

// newChange returns the change that a move is, or the error that it has.
func newChange(p api.Presentation, m api.Tietze) (change, api.Errno) {
	if err := Check(p); err != api.OK {
		return nil, err
	}
	switch m.Kind {
	case api.TzAddRel:
		return newAddRel(p, m)
	case api.TzDropRel:
		return newDropRel(p, m)
	case api.TzAddGen:
		return newAddGen(p, m)
	case api.TzDropGen:
		return newDropGen(p, m)
	}
	return nil, api.ErrTietze
}

func newAddRel(p api.Presentation, m api.Tietze) (change, api.Errno) {
	if len(p.Rels) >= api.MaxRels || isTooLong(m.Word) {
		return nil, api.ErrLimit
	}
	if !isRelator(p.Gens, m.Word) {
		return nil, api.ErrForm
	}
	if !isDisk(p, m.Proof, m.Word) {
		return nil, api.ErrProof
	}
	return addRel{goal{withRelator(p.Gens, p.Rels, m.Word)}}, api.OK
}

// withRelator returns a presentation with a relator behind the given ones.
func withRelator(gens int, rels []string, relator string) api.Presentation {
	return api.Presentation{Gens: gens, Rels: append(slices.Clone(rels), relator)}
}

func newDropRel(p api.Presentation, m api.Tietze) (change, api.Errno) {
	if !isRel(p, m.Rel) {
		return nil, api.ErrArg
	}
	q := api.Presentation{Gens: p.Gens, Rels: slices.Delete(slices.Clone(p.Rels), m.Rel, m.Rel+1)}
	if !isDisk(q, m.Proof, p.Rels[m.Rel]) {
		return nil, api.ErrProof
	}
	return dropRel{goal{q}, m.Rel, m.Proof}, api.OK
}

func newAddGen(p api.Presentation, m api.Tietze) (change, api.Errno) {
	if p.Gens >= api.MaxGens || len(p.Rels) >= api.MaxRels || len(m.Word) >= api.MaxRel {
		return nil, api.ErrLimit
	}
	if word.Check(p.Gens, m.Word) != api.OK {
		return nil, api.ErrForm
	}
	relator := word.Reduce(string(letter(p.Gens)) + word.Inverse(m.Word))
	return addGen{goal{withRelator(p.Gens+1, p.Rels, relator)}, m.Word}, api.OK
}

func newDropGen(p api.Presentation, m api.Tietze) (change, api.Errno) {
	if !isRel(p, m.Rel) {
		return nil, api.ErrArg
	}
	last := p.Gens - 1
	image, is := solve(p.Rels[m.Rel], letter(last))
	if last < 1 || !is {
		return nil, api.ErrTietze
	}
	d := dropGen{goal: goal{api.Presentation{Gens: last}}, forward: append(letters(last), image)}
	h := newHomomorphism(d.forward)
	for _, r := range p.Rels {
		relator, _ := h.image(r) // at most MaxRel times MaxRel letters: never too many for a word
		if isTooLong(relator) {
			return nil, api.ErrLimit
		}
		d.place(relator)
	}
	return d, api.OK
}

// place puts the image of the next relator behind the others, unless it is empty, as that of the relator that the generator was taken from is.
func (r *dropGen) place(relator string) {
	if relator == "" {
		r.places = append(r.places, -1)
		return
	}
	r.places = append(r.places, len(r.q.Rels))
	r.q.Rels = append(r.q.Rels, relator)
}

// solve returns the word of the other generators that is equal to a generator x by a relator, which has to have exactly one letter that is x or its inverse.
func solve(relator string, x byte) (image string, is bool) {
	both := string([]byte{x, x ^ caseBit})
	at := strings.IndexAny(relator, both)
	if at < 0 || at != strings.LastIndexAny(relator, both) {
		return "", false
	}
	u, v := relator[:at], relator[at+1:]
	if relator[at] == x {
		return word.Reduce(word.Inverse(u) + word.Inverse(v)), true
	}
	return word.Reduce(v + u), true
}
