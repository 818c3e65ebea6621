package abel

import "cayley/api"

// row is a row of a matrix, or a vector. The entries that a matrix with fewer columns does not use are zero.
type row struct {
	entries [api.MaxGens]int
}

// rowOf returns the row with the given first entries.
func rowOf(first []int) row {
	var r row
	copy(r.entries[:], first)
	return r
}

// first returns the first k entries.
func (r row) first(k int) []int {
	return r.entries[:k]
}

// norm returns the sum of the absolute values of the entries.
func (r row) norm() int {
	total := 0
	for _, x := range r.entries {
		total += max(x, -x)
	}
	return total
}

// at returns the value of a homomorphism, given by the images of unit vectors. Nothing overflows: images are at most 2^30, the entries are those of a word, or of a lift, and so at most 2^28, and there are at most 8 of them.
func (r row) at(images []int) int {
	total := 0
	for i, x := range images {
		total += x * r.entries[i]
	}
	return total
}

// plus returns the row with a multiple of another row added to it.
func (r row) plus(factor int, other row) row {
	for i, x := range other.entries {
		r.entries[i] = sum(r.entries[i], product(factor, x))
	}
	return r
}

// modulo returns the row with its entries taken modulo n.
func (r row) modulo(n int) row {
	for i, x := range r.entries {
		r.entries[i] = modulo(x, n)
	}
	return r
}

// over returns the row divided by n, which divides all entries.
func (r row) over(n int) row {
	for i, x := range r.entries {
		r.entries[i] = x / n
	}
	return r
}

// matrix is a list of rows.
type matrix []row

// identity returns the matrix with k unit vectors.
func identity(k int) matrix {
	m := make(matrix, k)
	for i := range m {
		m[i].entries[i] = 1
	}
	return m
}

// combination returns the sum of the rows, each times the entry of v at its index.
func (m matrix) combination(v row) row {
	var out row
	for i, r := range m {
		out = out.plus(v.entries[i], r)
	}
	return out
}

// column returns the entries of a column.
func (m matrix) column(j int) []int {
	out := make([]int, len(m))
	for i, r := range m {
		out[i] = r.entries[j]
	}
	return out
}

// swapColumns exchanges two columns.
func (m matrix) swapColumns(i, j int) {
	for k := range m {
		entries := &m[k].entries
		entries[i], entries[j] = entries[j], entries[i]
	}
}

// addColumn adds a multiple of one column to another one, modulo n.
func (m matrix) addColumn(to, factor, from, n int) {
	for i := range m {
		entries := &m[i].entries
		entries[to] = modulo(sum(entries[to], product(factor, entries[from])), n)
	}
}
