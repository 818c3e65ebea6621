package abel

// smith finds the structure of a finite abelian group from relations between given generators. It exchanges these for others until the embedded matrix, which has the relations between the present ones, is diagonal: change has the given generators as combinations of the present ones, elements the present ones as combinations of the given ones. All entries are modulo n, a number that annuls the group.
type smith struct {
	matrix
	change, elements matrix
	n                int
}

// newSmith begins with k generators. There are at least k relations.
func newSmith(k, n int, relations matrix) *smith {
	s := &smith{make(matrix, len(relations)), identity(k), identity(k), n}
	for i, r := range relations {
		s.matrix[i] = r.modulo(n)
	}
	return s
}

// orders makes the matrix diagonal, and returns the orders of the generators, each of which divides the next one.
func (s *smith) orders() []int {
	out := make([]int, len(s.elements))
	for t := range out {
		for s.lead(t) && !s.settle(t) {
		}
		out[t] = gcd(s.matrix[t].entries[t], s.n)
	}
	return out
}

// images returns the images of the given generators in the group that the present generator t generates, which has this order.
func (s *smith) images(t, order int) []int {
	out := s.change.column(t)
	for g, x := range out {
		out[g] = modulo(x, order)
	}
	return out
}

// lead brings the least nonzero entry, of those in the rows and columns from t on, to the place (t, t). It reports whether there is one.
func (s *smith) lead(t int) bool {
	i, j := s.least(t)
	if i < 0 {
		return false
	}
	s.matrix[t], s.matrix[i] = s.matrix[i], s.matrix[t]
	s.swapColumns(t, j)
	s.change.swapColumns(t, j)
	s.elements[t], s.elements[j] = s.elements[j], s.elements[t]
	return true
}

// settle clears the row and the column t with the entry at (t, t), and reports whether that entry has come to divide all those behind. If it has not, there is a smaller one now, or will be when the row t is cleared again.
func (s *smith) settle(t int) bool {
	s.clearColumn(t, s.n)
	s.clearRow(t)
	if !s.isClear(t) {
		return false
	}
	lead := gcd(s.matrix[t].entries[t], s.n) // since n times the generator is zero as well
	s.matrix[t].entries[t] = lead
	i := s.undivided(t+1, lead)
	if i < 0 {
		return true
	}
	s.matrix[t] = s.matrix[t].plus(1, s.matrix[i])
	return false
}

// clearRow subtracts the column t from those behind it as often as the entries of its row admit.
func (s *smith) clearRow(t int) {
	for j := t + 1; j < len(s.elements); j++ {
		quotient := s.matrix[t].entries[j] / s.matrix[t].entries[t]
		s.addColumn(j, -quotient, t, s.n)
		s.change.addColumn(j, -quotient, t, s.n)
		s.elements[t] = s.elements[t].plus(quotient, s.elements[j]).modulo(s.n)
	}
}

// clearColumn subtracts the row t from those below it as often as the entries of its column admit, modulo n.
func (m matrix) clearColumn(t, n int) {
	for i := t + 1; i < len(m); i++ {
		quotient := m[i].entries[t] / m[t].entries[t]
		m[i] = m[i].plus(-quotient, m[t]).modulo(n)
	}
}

// isClear reports whether the row and the column t are zero behind the place (t, t).
func (m matrix) isClear(t int) bool {
	for i := t + 1; i < len(m); i++ {
		if m[i].entries[t] != 0 {
			return false
		}
	}
	for _, x := range m[t].entries[t+1:] {
		if x != 0 {
			return false
		}
	}
	return true
}

// least returns the place of the least nonzero entry, of those in the rows and columns from t on: -1 if there is none.
func (m matrix) least(t int) (i, j int) {
	i, j = -1, -1
	best := 0
	for at := t; at < len(m); at++ {
		for column, x := range m[at].entries {
			if column >= t && x != 0 && (best == 0 || x < best) {
				i, j, best = at, column, x
			}
		}
	}
	return i, j
}

// undivided returns the first row, from an index on, with an entry that a number does not divide: -1 if there is none.
func (m matrix) undivided(from, divisor int) int {
	for i := from; i < len(m); i++ {
		for _, x := range m[i].entries {
			if x%divisor != 0 {
				return i
			}
		}
	}
	return -1
}
