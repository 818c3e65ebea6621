package abel_test

import (
	"math/rand"
	"slices"
	"strings"
	"testing"

	"cayley/abel"
	"cayley/api"
)

// P5.2: the chapter's examples, and others.
func TestOf(t *testing.T) {
	for _, x := range []struct {
		p       api.Presentation
		torsion []int
		rank    int
	}{
		{of(2, "abAB"), nil, 2}, {of(2, "aa", "bbb"), []int{6}, 0}, {of(2, "abaB"), []int{2}, 1}, {of(2, "aaaa", "aabb"), []int{2, 4}, 0}, {of(1), nil, 1}, {of(1, "a", "aa"), nil, 0},
		{of(8), nil, 8}, {of(1, "AAAAAA", "aaaa"), []int{2}, 0}, {of(1, a(200)), []int{200}, 0}, {of(2, "aa", "bb"), []int{2, 2}, 0}, {of(2, "aabb"), []int{2}, 1}, {of(2, "aabbb"), nil, 1}, {of(2, "abABB"), nil, 1},
		{of(3, "aa", "bbb", "ccccc"), []int{30}, 0}, {of(3, "aaaaaa", "bbbbbbbbbb", "ccccccccccccccc"), []int{30, 30}, 0}, {of(3, "aa", "bbbb", "cccccccc"), []int{2, 4, 8}, 0}, {of(4, "abABcdCD"), nil, 4}, {of(3, "aabbcc"), []int{2}, 2}, {of(3, "abAcc", "cc", "bb"), []int{2}, 1},
		{of(2, "aab", "abb"), []int{3}, 0}, {of(8, "h", "g", "f", "e", "d", "c", "b", "a"), nil, 0}, {of(8, "ab", "cd", "ef", "gh"), nil, 4}, {of(8, "aB", "bC", "cD", "dE", "eF", "fG", "gH", "ha"), []int{2}, 0},
		{of(5, slices.Repeat([]string{"abAB"}, 60)...), nil, 5}, {of(2, strings.Repeat("abAB", 50)), nil, 2}, {of(8, strings.Repeat("aBAb", 50)), nil, 8},
	} {
		mustHave(t, x.p, x.torsion, x.rank)
	}
}

// minor returns a determinant, by expansion.
func minor(rows [][]int, columns []int) int {
	if len(rows) == 0 {
		return 1
	}
	total := 0
	for i, c := range columns {
		if x := rows[0][c]; x != 0 {
			rest := append(slices.Clone(columns[:i]), columns[i+1:]...)
			total += (1 - 2*(i%2)) * x * minor(rows[1:], rest)
		}
	}
	return total
}

// subsets returns the sets of m of the numbers below n.
func subsets(n, m int) [][]int {
	if m == 0 {
		return [][]int{{}}
	}
	var out [][]int
	for last := m - 1; last < n; last++ {
		for _, s := range subsets(last, m-1) {
			out = append(out, append(s, last))
		}
	}
	return out
}

func gcd(x, y int) int {
	for y != 0 {
		x, y = y, x%y
	}
	return max(x, -x)
}

// invariants returns the invariants by the minors of the matrix of relators: the product of the first i numbers is the greatest common divisor of those with i rows.
func invariants(p api.Presentation) (torsion []int, rank int) {
	var rows [][]int
	for _, w := range p.Rels {
		rows = append(rows, sums(p.Gens, w))
	}
	last := 1
	for m := 1; m <= min(p.Gens, len(rows)); m++ {
		divisor := 0
		for _, s := range subsets(len(rows), m) {
			var some [][]int
			for _, i := range s {
				some = append(some, rows[i])
			}
			for _, c := range subsets(p.Gens, m) {
				divisor = gcd(divisor, minor(some, c))
			}
		}
		if divisor == 0 {
			return torsion, p.Gens - m + 1
		}
		if divisor > last {
			torsion = append(torsion, divisor/last)
		}
		last = divisor
	}
	return torsion, p.Gens - min(p.Gens, len(rows))
}

// P5.2: invariants by their other definition, for few relators, of all sizes.
func TestInvariantsByMinors(t *testing.T) {
	r := rand.New(rand.NewSource(1))
	for i := range 6000 {
		k := 1 + i%8
		most := min(4, k)
		if k <= 3 {
			most = 6
		}
		s := 1 + r.Intn(mostNorm[k])
		if i%3 == 0 {
			s = 1 + r.Intn(4)
		}
		p := randomPresentation(r, k, s, most)
		torsion, rank := invariants(p)
		mustHave(t, p, torsion, rank)
	}
	for i := range 30 { // as many relators as generators
		k := 5 + i%3
		var vectors [][]int
		for range k {
			vectors = append(vectors, randomVector(r, k, mostNorm[k]))
		}
		p := presentation(r, k, vectors)
		torsion, rank := invariants(p)
		mustHave(t, p, torsion, rank)
	}
}

// disguised returns relators for given cyclic groups: their rows and columns are mixed, as long as the norm is at most s.
func disguised(r *rand.Rand, k, s int, orders []int) [][]int {
	var rows [][]int
	for i, d := range orders {
		v := make([]int, k)
		v[i] = d
		rows = append(rows, v)
	}
	for len(rows) > 0 && len(rows) < 60 && r.Intn(8) > 0 { // sums of multiples of others
		rows = append(rows, make([]int, k))
	}
	for range 400 {
		sign := 1 - 2*r.Intn(2)
		i, j := r.Intn(k), r.Intn(k)
		mixed := make([][]int, len(rows))
		for n, v := range rows {
			mixed[n] = slices.Clone(v)
		}
		if r.Intn(2) == 0 && i != j {
			for _, v := range mixed {
				v[i] += sign * v[j]
			}
		} else if len(rows) > 1 {
			m := r.Perm(len(rows))
			for n := range k {
				mixed[m[0]][n] += sign * mixed[m[1]][n]
			}
		}
		if !slices.ContainsFunc(mixed, func(v []int) bool { return norm(v) > s }) {
			rows = mixed
		}
	}
	return rows
}

// P5.2: invariants that are known ahead, for up to 60 relators.
func TestInvariantsInDisguise(t *testing.T) {
	r := rand.New(rand.NewSource(2))
	for i := range 4000 {
		k := 1 + i%8
		s := mostNorm[k]
		if i%2 == 0 {
			s = mostSure[k]
		}
		var orders, torsion []int
		for d := 1; len(orders) < k && r.Intn(6) > 0; {
			if next := d * (1 + r.Intn(4)); next <= s {
				d = next
			}
			orders = append(orders, d)
			if d > 1 {
				torsion = append(torsion, d)
			}
		}
		if len(orders) == 0 {
			continue
		}
		p := presentation(r, k, disguised(r, k, s, orders))
		mustHave(t, p, torsion, k-len(orders))
	}
}

// P5.2: all sizes for which there has to be a certificate, and all others, as there is one for these as well.
func TestEveryPresentationHasACertificate(t *testing.T) {
	r := rand.New(rand.NewSource(3))
	for i := range 6000 {
		k := 1 + i%8
		for _, most := range []int{mostSure[k], mostNorm[k]} {
			p := randomPresentation(r, k, 1+r.Intn(most), 1+r.Intn(12))
			mustCertify(t, p)
		}
	}
	for i := range 200 {
		k := 1 + i%8
		mustCertify(t, randomPresentation(r, k, mostNorm[k], 60))
	}
}

// P5.2: all presentations with two generators and two relators with exponent sums up to 4.
func TestAllSmallPresentations(t *testing.T) {
	r := rand.New(rand.NewSource(4))
	var vectors [][]int
	for x := -4; x <= 4; x++ {
		for y := -4; y <= 4; y++ {
			vectors = append(vectors, []int{x, y})
		}
	}
	for _, u := range vectors {
		for _, v := range vectors {
			p := presentation(r, 2, [][]int{u, v})
			torsion, rank := invariants(p)
			mustHave(t, p, torsion, rank)
		}
	}
}

// P5.2: images in several copies of Z, of relators that are as long as they may be.
func TestLargeImages(t *testing.T) {
	r := rand.New(rand.NewSource(9))
	for i := range 600 {
		k := 4 + i%5
		var vectors [][]int
		for range k - 2 - i%2 {
			v := make([]int, k)
			for norm(v) < mostNorm[k] {
				if j := r.Intn(k); v[j] != 0 || r.Intn(3) == 0 {
					v[j] += 1 + r.Intn(mostNorm[k]-norm(v))
				}
			}
			for j := range v {
				v[j] *= 1 - 2*r.Intn(2)
			}
			vectors = append(vectors, v)
		}
		mustCertify(t, presentation(r, k, vectors))
	}
}

// chain returns the relators x^n = y for the generators x, y that follow each other.
func chain(k, n int) []string {
	var out []string
	for i := range k - 1 {
		out = append(out, strings.Repeat(string(allLetters[2*i]), n)+string(allLetters[2*i+3]))
	}
	return out
}

func power(n, k int) int {
	out := 1
	for range k {
		out *= n
	}
	return out
}

// P5.2: the largest numbers.
func TestLargestInvariants(t *testing.T) {
	for k := 2; k <= 8; k++ {
		n := mostNorm[k] - 1
		last := string(allLetters[2*k-2])
		mustHave(t, of(k, chain(k, n)...), nil, 1)
		mustHave(t, of(k, append(chain(k, n), strings.Repeat(last, n+1))...), []int{power(n, k-1) * (n + 1)}, 0)
		mustHave(t, of(k, append(chain(k, n), strings.Repeat(last, n)+"A")...), []int{power(n, k) - 1}, 0)
		mustHave(t, of(k, append(chain(k, n), strings.Repeat(last, n)+"a")...), []int{power(n, k) + 1}, 0)
		var torsion []int
		p := of(k)
		for i := range k {
			torsion = append(torsion, n+1)
			p.Rels = append(p.Rels, strings.Repeat(string(allLetters[2*i+1]), n+1))
			mustHave(t, p, torsion, k-i-1)
		}
	}
}

// P5.1, P5.2: the errors of a presentation, for each function, ahead of all others.
func TestErrorsOfPresentations(t *testing.T) {
	long := a(200)
	for _, x := range []struct {
		p    api.Presentation
		want api.Errno
	}{
		{of(0), api.ErrForm}, {of(9), api.ErrForm}, {of(-1), api.ErrForm}, {of(2, "c"), api.ErrForm}, {of(2, ""), api.ErrForm}, {of(2, "aA"), api.ErrForm}, {of(2, "a b"), api.ErrForm}, {of(1, a(201)), api.ErrForm}, {of(1, slices.Repeat([]string{"a"}, 61)...), api.ErrForm}, {of(4, long, "e"), api.ErrForm},
		{of(4, long), api.ErrLimit}, {of(4, "a", strings.Repeat("D", 182)), api.ErrLimit}, {of(5, a(65)), api.ErrLimit}, {of(6, a(33)), api.ErrLimit}, {of(7, a(20)), api.ErrLimit}, {of(8, "aBCdEFgHHaaaaa"), api.ErrLimit}, {of(8, long), api.ErrLimit},
		{of(3, long), api.OK}, {of(4, a(181)), api.OK}, {of(5, a(64)), api.OK}, {of(6, a(32)), api.OK}, {of(7, a(19)), api.OK}, {of(8, "aBCdEFgHHaaaa"), api.OK}, {of(8, strings.Repeat("abAB", 50)), api.OK}, {of(1, slices.Repeat([]string{"a"}, 60)...), api.OK},
	} {
		c, err := abel.Of(x.p)
		if err != x.want {
			t.Errorf("Of %.80v: %d, not %d", x.p, err, x.want)
		}
		if x.want == api.OK {
			continue
		}
		if len(c.Torsion)+c.Rank+len(c.Images)+len(c.Lifts) > 0 {
			t.Errorf("Of %.80v: %v beside an error", x.p, c)
		}
		image, err1 := abel.Image(x.p, c, "z")
		n, err2 := abel.Order(x.p, c, "z")
		images, err3 := abel.Infinite(x.p, "z")
		for _, err := range []api.Errno{abel.Check(x.p, c), err1, err2, err3, abel.CheckInfinite(x.p, "z", nil)} {
			if err != x.want {
				t.Errorf("a function of %.80v: %d, not %d", x.p, err, x.want)
			}
		}
		if len(image)+n+len(images) > 0 {
			t.Errorf("%.80v: %v, %d, %v beside errors", x.p, image, n, images)
		}
	}
}
