package pres

import (
	"slices"

	"cayley/api"
	"cayley/word"
)

// Carry carries a disk through a Tietze move.
func Carry(p api.Presentation, m api.Tietze, d []api.Cell) ([]api.Cell, api.Errno) {
	c, err := newChange(p, m)
	if err != api.OK {
		return nil, err
	}
	if !areCells(p, d) {
		return nil, api.ErrForm
	}
	switch c := c.(type) {
	case dropRel:
		return c.carry(d)
	case dropGen:
		return c.carry(d)
	default: // relators that are added change no cell
		return slices.Clone(d), api.OK
	}
}

// carry puts copies of the proof in the place of the cells of the relator that is removed.
func (r dropRel) carry(d []api.Cell) ([]api.Cell, api.Errno) {
	if r.count(d) > api.MaxCells {
		return nil, api.ErrLimit
	}
	var out []api.Cell
	for _, c := range d {
		cells, err := r.carryCell(c)
		if err != api.OK {
			return nil, err
		}
		out = append(out, cells...)
	}
	return out, api.OK
}

// carryCell returns the cells that stand for one.
func (r dropRel) carryCell(c api.Cell) ([]api.Cell, api.Errno) {
	if c.Rel != r.rel {
		if c.Rel > r.rel {
			c.Rel--
		}
		return []api.Cell{c}, api.OK
	}
	cells, err := conjugate(r.proof, c.Conj)
	if c.Inv {
		invert(cells)
	}
	return cells, err
}

// count returns how many cells there are once others are carried.
func (r dropRel) count(d []api.Cell) int {
	n := 0
	for _, c := range d {
		if c.Rel == r.rel {
			n += len(r.proof)
		} else {
			n++
		}
	}
	return n
}

// conjugate returns a copy of cells with a word in front of each Conj, or ErrLimit if one has too many letters ahead of its reduction.
func conjugate(cells []api.Cell, u string) ([]api.Cell, api.Errno) {
	out := slices.Clone(cells)
	for i, c := range out {
		if len(u)+len(c.Conj) > api.MaxWord {
			return nil, api.ErrLimit
		}
		out[i].Conj = word.Reduce(u + c.Conj)
	}
	return out, api.OK
}

// invert turns cells into those of the inverse of their product.
func invert(cells []api.Cell) {
	slices.Reverse(cells)
	for i := range cells {
		cells[i].Inv = !cells[i].Inv
	}
}

// carry maps the cells by forward, but for those whose relator is left out.
func (r dropGen) carry(d []api.Cell) ([]api.Cell, api.Errno) {
	var out []api.Cell
	h := newHomomorphism(r.forward)
	for _, c := range d {
		place := r.places[c.Rel]
		if place < 0 {
			continue
		}
		conj, err := h.image(c.Conj)
		if err != api.OK {
			return nil, err
		}
		out = append(out, api.Cell{Conj: conj, Rel: place, Inv: c.Inv})
	}
	return out, api.OK
}
