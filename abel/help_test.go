package abel_test

import (
	"math/rand"
	"slices"
	"strings"
	"testing"

	"cayley/abel"
	"cayley/api"
)

const allLetters = "aAbBcCdDeEfFgGhH"

func of(gens int, rels ...string) api.Presentation {
	return api.Presentation{Gens: gens, Rels: rels}
}

func a(n int) string { return strings.Repeat("a", n) }

// sums returns the exponent sums of a word of k generators.
func sums(k int, w string) []int {
	out := make([]int, k)
	for i := range out {
		out[i] = strings.Count(w, allLetters[2*i:2*i+1]) - strings.Count(w, allLetters[2*i+1:2*i+2])
	}
	return out
}

func inverse(w string) string {
	out := []byte(w)
	slices.Reverse(out)
	for i := range out {
		out[i] ^= 32
	}
	return string(out)
}

func randomWord(r *rand.Rand, k, length int) string {
	out := make([]byte, length)
	for i := range out {
		out[i] = allLetters[r.Intn(2*k)]
	}
	return string(out)
}

// norm returns the sum of the absolute values of a vector.
func norm(v []int) int {
	total := 0
	for _, x := range v {
		total += max(x, -x)
	}
	return total
}

// randomVector returns a vector of k integers with a norm of at most s.
func randomVector(r *rand.Rand, k, s int) []int {
	v := make([]int, k)
	for range r.Intn(s + 1) {
		v[r.Intn(k)]++
	}
	for i := range v {
		v[i] *= 1 - 2*r.Intn(2)
	}
	return v
}

// relator returns a freely reduced word with given exponent sums. It has letters of one sign alone for each generator, in any order, if the sums are not all 0; otherwise it is a commutator (of k generators, at least two).
func relator(r *rand.Rand, v []int) string {
	var out []byte
	for i, x := range v {
		letter := allLetters[2*i]
		if x < 0 {
			letter = allLetters[2*i+1]
		}
		out = append(out, strings.Repeat(string(letter), max(x, -x))...)
	}
	if len(out) == 0 {
		return "abAB"
	}
	r.Shuffle(len(out), func(i, j int) { out[i], out[j] = out[j], out[i] })
	return string(out)
}

// presentation returns a presentation with these exponent sums of the relators; with one generator, those that are 0 are left out.
func presentation(r *rand.Rand, k int, vectors [][]int) api.Presentation {
	p := of(k)
	for _, v := range vectors {
		if k > 1 || v[0] != 0 {
			p.Rels = append(p.Rels, relator(r, v))
		}
	}
	return p
}

func randomPresentation(r *rand.Rand, k, s, most int) api.Presentation {
	var vectors [][]int
	for range r.Intn(most + 1) {
		vectors = append(vectors, randomVector(r, k, s))
	}
	return presentation(r, k, vectors)
}

// mostSure has, for each number of generators, the greatest norm of relators with which a certificate has to be found; mostNorm the greatest one that is admitted.
var (
	mostSure = []int{0, 200, 64, 16, 8, 5, 4, 3, 2}
	mostNorm = []int{0, 200, 200, 200, 181, 64, 32, 19, 13}
)

// dot returns the sum of the products of the entries.
func dot(u, v []int) int {
	total := 0
	for i, x := range u {
		total += x * v[i]
	}
	return total
}

// column returns the entries at an index.
func column(rows [][]int, i int) []int {
	var out []int
	for _, r := range rows {
		out = append(out, r[i])
	}
	return out
}

// image returns the image of a vector, by the definition.
func image(c api.Abel, v []int) []int {
	out := []int{}
	for i := range len(c.Torsion) + c.Rank {
		x := dot(v, column(c.Images, i))
		if i < len(c.Torsion) {
			x = (x%c.Torsion[i] + c.Torsion[i]) % c.Torsion[i]
		}
		out = append(out, x)
	}
	return out
}

// fault says what is wrong with a certificate, apart from its invariants, by the definition.
func fault(p api.Presentation, c api.Abel) string {
	n, s := len(c.Torsion)+c.Rank, len(c.Torsion)
	if len(c.Images) != p.Gens || len(c.Lifts) != n {
		return "the numbers of rows"
	}
	for _, v := range c.Images {
		if len(v) != n {
			return "the numbers of images"
		}
		for i, x := range v {
			if i < s && (x < 0 || x >= c.Torsion[i]) || i >= s && max(x, -x) > api.MaxAbelEntry {
				return "an image"
			}
		}
	}
	for _, w := range p.Rels {
		if slices.ContainsFunc(image(c, sums(p.Gens, w)), func(x int) bool { return x != 0 }) {
			return "the image of a relator"
		}
	}
	for j, v := range c.Lifts {
		unit := make([]int, n)
		unit[j] = 1
		if len(v) != p.Gens || slices.ContainsFunc(v, func(x int) bool { return max(x, -x) > api.MaxAbelEntry }) || !slices.Equal(image(c, v), unit) {
			return "a lift"
		}
	}
	return ""
}

// mustCertify returns the certificate of Of, once it is tested to be valid as far as its invariants are right.
func mustCertify(t *testing.T, p api.Presentation) api.Abel {
	t.Helper()
	c, err := abel.Of(p)
	if err != api.OK {
		t.Fatalf("Of %.300v: %d", p, err)
	}
	if f := fault(p, c); f != "" {
		t.Fatalf("Of %.300v: %v: %s", p, c, f)
	}
	if err := abel.Check(p, c); err != api.OK {
		t.Fatalf("Check of %v for %.300v: %d", c, p, err)
	}
	return c
}

// mustHave tests the invariants.
func mustHave(t *testing.T, p api.Presentation, torsion []int, rank int) {
	t.Helper()
	if c := mustCertify(t, p); !slices.Equal(c.Torsion, torsion) || c.Rank != rank {
		t.Errorf("Of %.300v: %v, %d, not %v, %d", p, c.Torsion, c.Rank, torsion, rank)
	}
}
