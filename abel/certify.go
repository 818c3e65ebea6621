package abel

import (
	"slices"

	"cayley/api"
)

// certify returns a valid certificate for relators with these exponent sums in k generators. The copies of Z are split off first. Their lifts as relations beside the relators leave the finite part, which det annuls: so it is computed modulo det.
//
// An overflow would be ErrUnknown. There is none for any size up to MaxAbel: that bounds det and all entries on the way, so that the sums of 8 products of two of them are ints.
//
// Nor are entries of the certificate too large. Those of lifts are at most 1 + 200 k, as combinations of vectors of the frame with factors up to 1. Those of images in copies of Z are at most 2^(r-1) s^(k-r), where r is the rank and s the greatest norm of a relator: less than 2^26.
func certify(k int, relators matrix) (a api.Abel, err api.Errno) {
	defer func() {
		if recover() != nil {
			a, err = api.Abel{}, api.ErrUnknown
		}
	}()
	free := newFreePart(newFrame(k, relators))
	finite := newSmith(k, free.det, slices.Concat(relators, free.lifts()))
	c := certificate{api.Abel{Rank: free.free, Images: make([][]int, k)}}
	for t, order := range finite.orders() {
		if order > 1 {
			c.Torsion = append(c.Torsion, order)
			c.add(finite.images(t, order), free.projection(finite.elements[t]).first(k))
		}
	}
	for j, lift := range free.lifts() {
		c.add(free.images.column(j), lift.first(k))
	}
	return c.Abel, api.OK
}

// freePart has the abelianization as a sum of copies of Z, which the vectors with the coordinates in basis generate, and of its finite part. For each generator there is a row in images, its image in these copies, and one in rests: the coordinates of what it has in the finite part.
type freePart struct {
	frame
	basis, images, rests matrix
}

func newFreePart(f frame) freePart {
	p := freePart{frame: f, basis: f.lattice()}
	for _, coordinates := range f.matrix {
		image, rest := p.basis.divide(coordinates, f.det)
		p.images = append(p.images, image)
		p.rests = append(p.rests, rest)
	}
	return p
}

// lifts returns the vectors that generate the copies of Z.
func (p freePart) lifts() matrix {
	var out matrix
	for _, coordinates := range p.basis {
		out = append(out, p.vector(coordinates))
	}
	return out
}

// projection returns a vector that differs from v by one of the copies of Z and of relators, and depends on relators.
func (p freePart) projection(v row) row {
	return p.vector(p.rests.combination(v).modulo(p.det))
}
