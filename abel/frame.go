package abel

// frame is a basis of the rational vectors: unit vectors at the positions below free, and behind them relators on which all relators depend, so that free is the rank of the abelianization. The embedded matrix is det times the inverse of the matrix of these vectors. The combination of a vector in it has the vector's coordinates, times det; for brevity these are called its coordinates below.
//
// All entries and coordinates of relators are minors of matrices whose rows are relators and unit vectors, at most k of them: by Hadamard's inequality the size of the presentation bounds them, and det.
type frame struct {
	matrix
	vectors matrix
	det     int
	free    int
}

// newFrame returns a frame for relators in k generators.
func newFrame(k int, relators matrix) frame {
	f := frame{matrix: identity(k), vectors: identity(k), det: 1, free: k}
	for _, r := range relators {
		f.admit(r)
	}
	return f
}

// admit puts a relator in the place of a unit vector, unless it depends on the relators that are there.
func (f *frame) admit(relator row) {
	coordinates := f.combination(relator)
	for i := f.free - 1; i >= 0; i-- {
		if coordinates.entries[i] == 0 {
			continue
		}
		f.free--
		f.swapColumns(i, f.free)
		f.vectors[i], f.vectors[f.free] = f.vectors[f.free], f.vectors[i]
		f.replace(f.free, relator)
		return
	}
}

// replace puts a relator, or its inverse, so that det remains positive, in the place of a vector.
func (f *frame) replace(position int, relator row) {
	coordinates := f.combination(relator)
	if coordinates.entries[position] < 0 {
		relator = row{}.plus(-1, relator)
		coordinates = row{}.plus(-1, coordinates)
	}
	f.pivot(position, coordinates, f.det)
	f.vectors[position] = relator
	f.det = coordinates.entries[position]
}

// pivot turns the matrix of a frame with this det into that of the frame that has the vector with these coordinates at a position. (All divisions are exact: the results are minors.)
func (m matrix) pivot(position int, coordinates row, det int) {
	for g, old := range m {
		m[g] = row{}.plus(coordinates.entries[position], old).plus(-old.entries[position], coordinates).over(det)
		m[g].entries[position] = old.entries[position]
	}
}

// vector returns the vector with given coordinates.
func (f frame) vector(coordinates row) row {
	return f.vectors.combination(coordinates).over(f.det)
}

// lattice returns coordinates of vectors that are a basis of all integer vectors modulo those that depend on relators: the first free columns of these rows are upper triangular. All entries are from 0 to det.
//
// Coordinates may be taken modulo det everywhere, since det times a unit vector, as coordinates, means a vector of the frame itself.
func (f frame) lattice() matrix {
	m := make(matrix, f.free)
	for i := range m {
		m[i].entries[i] = f.det
	}
	for _, coordinates := range f.matrix {
		m.insert(coordinates, f.det)
	}
	return m
}

// insert adds a row to the lattice that the rows of a triangular matrix generate.
func (m matrix) insert(r row, n int) {
	r = r.modulo(n)
	for j := range m {
		for r.entries[j] != 0 {
			quotient := m[j].entries[j] / r.entries[j]
			m[j], r = r, m[j].plus(-quotient, r).modulo(n)
		}
	}
}

// divide subtracts multiples of the rows of a triangular matrix, whose entries are at most n, from a row that is in their lattice, until its first columns are zero. It returns the factors, and what is left, modulo n.
//
// If no entry of r is above b, the factor number j is at most 2^j b p / n, where p is the product of n / m[i][i] for all i: the number of rows in the lattice modulo n. (With a frame, n is the number of all vectors modulo those of the frame, so that p is at most n.)
func (m matrix) divide(r row, n int) (factors, rest row) {
	for j := range m {
		factor := r.entries[j] / m[j].entries[j]
		factors.entries[j] = factor
		r = r.plus(-factor, m[j])
	}
	return factors, r.modulo(n)
}
