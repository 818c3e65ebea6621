package pres_test

import (
	"math/rand"
	"slices"
	"strings"
	"testing"

	"cayley/api"
	"cayley/pres"
)

// shortlex compares two words.
func shortlex(u, v string) int {
	if len(u) != len(v) {
		return len(u) - len(v)
	}
	for i := range len(u) {
		if d := strings.IndexByte(allLetters, u[i]) - strings.IndexByte(allLetters, v[i]); d != 0 {
			return d
		}
	}
	return 0
}

// turns returns the rotations of the cores of a freely reduced word and of its inverse, in shortlex order, each one once.
func turns(w string) []string {
	for len(w) > 1 && w[0]^w[len(w)-1] == 32 {
		w = w[1 : len(w)-1]
	}
	var out []string
	for i := range len(w) {
		rotated := w[i:] + w[:i]
		out = append(out, rotated, inverse(rotated))
	}
	slices.SortFunc(out, shortlex)
	return slices.Compact(out)
}

// plainCanonical returns the relators of the canonical form by the definition.
func plainCanonical(p api.Presentation) []string {
	var out []string
	for _, r := range p.Rels {
		out = append(out, turns(r)[0])
	}
	slices.SortFunc(out, shortlex)
	return slices.Compact(out)
}

// plainClosure returns the symmetrized closure by the definition.
func plainClosure(p api.Presentation) []string {
	var out []string
	for _, r := range p.Rels {
		out = append(out, turns(r)...)
	}
	slices.SortFunc(out, shortlex)
	return slices.Compact(out)
}

// canonical returns the canonical form of a valid presentation.
func canonical(t *testing.T, p api.Presentation) api.Presentation {
	t.Helper()
	q, err := pres.Canonical(p)
	if err != api.OK {
		t.Fatalf("Canonical of %v: %d", p, err)
	}
	return q
}

// P3.2
func TestCanonical(t *testing.T) {
	for _, x := range [][2]api.Presentation{
		{of(2, "bAB", "baBB", "A"), of(2, "a", "aB")}, {of(1), of(1)}, {of(8), of(8)}, {of(1, "AAA"), of(1, "aaa")}, {of(2, "bbb", "aa", "BB", "b"), of(2, "b", "aa", "bb", "bbb")},
		{of(2, "B", "A"), of(2, "a", "b")}, {of(2, "BAba"), of(2, "abAB")}, {of(2, "aB", "Ab", "bA", "Ba"), of(2, "aB")}, {of(8, "hGH", "HGGh"), of(8, "g", "gg")}, {of(2, "bbA", "abAB", "aab"), of(2, "aab", "aBB", "abAB")},
	} {
		if q := canonical(t, x[0]); !same(q, x[1]) {
			t.Errorf("Canonical of %v = %v", x[0], q)
		}
	}
	r := rand.New(rand.NewSource(4))
	for i := range 1000 {
		p := randomPresentation(r, 1+i%4)
		if q := canonical(t, p); !same(q, of(p.Gens, plainCanonical(p)...)) {
			t.Errorf("Canonical of %v = %v", p, q)
		}
	}
}

// changed returns a presentation with relators rotated, inverted, conjugated, repeated and listed in another order.
func changed(r *rand.Rand, p api.Presentation) api.Presentation {
	q := of(p.Gens)
	for _, w := range p.Rels {
		for range 1 + r.Intn(3) {
			all := turns(w)
			c := randomWord(r, p.Gens, r.Intn(4))
			q.Rels = append(q.Rels, reduce(c+all[r.Intn(len(all))]+inverse(c)))
		}
	}
	r.Shuffle(len(q.Rels), func(i, j int) { q.Rels[i], q.Rels[j] = q.Rels[j], q.Rels[i] })
	return q
}

// P3.6
func TestCanonicalStays(t *testing.T) {
	r := rand.New(rand.NewSource(5))
	for i := range 1000 {
		p := randomPresentation(r, 1+i%4)
		form := canonical(t, p)
		if !same(canonical(t, form), form) {
			t.Errorf("%v is not its own canonical form", form)
		}
		if q := changed(r, p); !same(canonical(t, q), form) {
			t.Errorf("the canonical forms of %v and %v are different", p, q)
		}
	}
}

// P3.2
func TestSymmetrized(t *testing.T) {
	for _, x := range []struct {
		p       api.Presentation
		closure []string
	}{
		{of(2, "aba"), []string{"aab", "aba", "AAB", "ABA", "baa", "BAA"}}, {of(1), nil}, {of(1, "aaa"), []string{"aaa", "AAA"}}, {of(2, "baB", "A"), []string{"a", "A"}}, {of(2, "bb", "a"), []string{"a", "A", "bb", "BB"}},
		{of(2, "abAB"), []string{"abAB", "aBAb", "AbaB", "ABab", "baBA", "bABa", "BabA", "BAba"}},
	} {
		if list, err := pres.Symmetrized(x.p); err != api.OK || !slices.Equal(list, x.closure) {
			t.Errorf("Symmetrized of %v = %v, %d", x.p, list, err)
		}
	}
	r := rand.New(rand.NewSource(6))
	for i := range 1000 {
		p := randomPresentation(r, 1+i%4)
		list, err := pres.Symmetrized(p)
		if err != api.OK || !slices.Equal(list, plainClosure(p)) {
			t.Errorf("Symmetrized of %v = %v, %d", p, list, err)
		}
		form, err := pres.Symmetrized(canonical(t, p))
		if err != api.OK || !slices.Equal(list, form) {
			t.Errorf("the closure of %v is not that of its canonical form", p)
		}
	}
}

// P3.2: the most and the longest relators.
func TestLargeForms(t *testing.T) {
	r := rand.New(rand.NewSource(7))
	p := of(8)
	for range 60 {
		w := make([]byte, 200)
		for i := range w {
			w[i] = "abcdefgh"[r.Intn(8)]
		}
		p.Rels = append(p.Rels, string(w))
	}
	if q := canonical(t, p); !slices.Equal(q.Rels, plainCanonical(p)) {
		t.Error("the canonical form of the most relators")
	}
	if list, err := pres.Symmetrized(p); err != api.OK || !slices.Equal(list, plainClosure(p)) {
		t.Error("the closure of the most relators", len(list), err)
	}
}
