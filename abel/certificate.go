package abel

import "cayley/api"

// certificate is a certificate, valid or not.
type certificate struct {
	api.Abel
}

// add adds a cyclic group: the images of the generators in it, and the lift of its generator.
func (c *certificate) add(images, lift []int) {
	for g, x := range images {
		c.Images[g] = append(c.Images[g], x)
	}
	c.Lifts = append(c.Lifts, lift)
}

// homomorphism returns the images of the generators at a position.
func (c certificate) homomorphism(position int) []int {
	out := make([]int, len(c.Images))
	for g, image := range c.Images {
		out[g] = image[position]
	}
	return out
}

// image returns the image of a vector.
func (c certificate) image(v row) []int {
	out := make([]int, len(c.Torsion)+c.Rank)
	for i := range out {
		out[i] = v.at(c.homomorphism(i))
		if i < len(c.Torsion) {
			out[i] = modulo(out[i], c.Torsion[i])
		}
	}
	return out
}

// order returns the order of an image, 0 if it is infinite.
func (c certificate) order(image []int) int {
	order := 1
	for i, x := range image {
		if i < len(c.Torsion) {
			d := c.Torsion[i]
			own := d / gcd(d, x)
			order *= own / gcd(order, own)
		} else if x != 0 {
			return 0
		}
	}
	return order
}

// isWellFormed reports whether the entries are in range, and their numbers are those for k generators, if Torsion and Rank are correct.
func (c certificate) isWellFormed(k int) bool {
	n := len(c.Torsion) + c.Rank
	return isShape(c.Images, k, n) && isShape(c.Lifts, n, k) && c.areImagesWithin() && c.areLiftsWithin()
}

func isShape(rows [][]int, height, width int) bool {
	if len(rows) != height {
		return false
	}
	for _, r := range rows {
		if len(r) != width {
			return false
		}
	}
	return true
}

func (c certificate) areImagesWithin() bool {
	s := len(c.Torsion)
	for _, image := range c.Images {
		for i, d := range c.Torsion {
			if image[i] < 0 || image[i] >= d {
				return false
			}
		}
		if !areWithin(image[s:], api.MaxAbelEntry) {
			return false
		}
	}
	return true
}

func (c certificate) areLiftsWithin() bool {
	for _, lift := range c.Lifts {
		if !areWithin(lift, api.MaxAbelEntry) {
			return false
		}
	}
	return true
}

// isIsomorphism reports whether each relator maps to zero and each lift to its own generator.
func (c certificate) isIsomorphism(relators matrix) bool {
	for _, r := range relators {
		if !isUnit(c.image(r), -1) {
			return false
		}
	}
	for j, lift := range c.Lifts {
		if !isUnit(c.image(rowOf(lift)), j) {
			return false
		}
	}
	return true
}

// isUnit reports whether a vector has 1 at an index, and 0 at all others.
func isUnit(v []int, index int) bool {
	for i, x := range v {
		want := 0
		if i == index {
			want = 1
		}
		if x != want {
			return false
		}
	}
	return true
}
