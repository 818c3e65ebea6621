package pres_test

import (
	"math"
	"math/rand"
	"slices"
	"strings"
	"testing"

	"cayley/api"
	"cayley/pres"
)

const allLetters = "aAbBcCdDeEfFgGhH"

func of(gens int, rels ...string) api.Presentation {
	return api.Presentation{Gens: gens, Rels: rels}
}

// same reports whether two presentations are the same.
func same(p, q api.Presentation) bool {
	return p.Gens == q.Gens && slices.Equal(p.Rels, q.Rels)
}

func a(n int) string { return strings.Repeat("a", n) }

// reduce returns the free reduction of a word of any length.
func reduce(w string) string {
	var out []byte
	for _, c := range []byte(w) {
		out = append(out, c)
		if n := len(out); n > 1 && out[n-1]^out[n-2] == 32 {
			out = out[:n-2]
		}
	}
	return string(out)
}

// inverse returns the inverse of a word of any length.
func inverse(w string) string {
	out := []byte(w)
	slices.Reverse(out)
	for i := range out {
		out[i] ^= 32
	}
	return string(out)
}

// randomWord returns a word of k generators.
func randomWord(r *rand.Rand, k, length int) string {
	out := make([]byte, length)
	for i := range out {
		out[i] = allLetters[r.Intn(2*k)]
	}
	return string(out)
}

// randomRelator returns a freely reduced word of k generators with at least one and at most some letters.
func randomRelator(r *rand.Rand, k, most int) string {
	for {
		if w := reduce(randomWord(r, k, 1+r.Intn(most))); w != "" {
			return w
		}
	}
}

// randomPresentation returns a valid presentation of k generators.
func randomPresentation(r *rand.Rand, k int) api.Presentation {
	p := of(k)
	for range r.Intn(5) {
		p.Rels = append(p.Rels, randomRelator(r, k, 8))
	}
	return p
}

// invalid are presentations that aren't valid, with their errors.
func invalid() map[api.Errno][]api.Presentation {
	long, many := a(201), slices.Repeat([]string{"a"}, 61)
	return map[api.Errno][]api.Presentation{
		api.ErrArg:   {of(0), of(9), of(-1), of(math.MaxInt), of(math.MinInt), of(0, long), of(9, ""), of(0, many...)},
		api.ErrLimit: {of(1, many...), of(1, make([]string, 61)...), of(1, long), of(2, "b", long), of(1, "aA", long), of(1, "", long), of(1, strings.Repeat("?", 201)), of(1, a(api.MaxWord+1))},
		api.ErrForm:  {of(1, ""), of(1, "aA"), of(1, "a", "Aa"), of(2, "abBA"), of(1, "b"), of(1, "B"), of(7, "h"), of(8, "i"), of(2, "a b"), of(2, "a^2"), of(2, "1"), of(2, "é"), of(1, make([]string, 60)...), of(1, strings.Repeat("?", 200)), of(1, a(199)+"A")},
	}
}

// P3.1
func TestCheck(t *testing.T) {
	for _, p := range []api.Presentation{of(1), of(8), of(1, "a"), of(1, "A", "A"), of(2, "abAB"), of(8, "abcdefghABCDEFGH"), of(1, a(200)), of(1, slices.Repeat([]string{"a"}, 60)...), {Gens: 1, Rels: []string{}}} {
		if err := pres.Check(p); err != api.OK {
			t.Errorf("Check of %d, %.40q = %d", p.Gens, p.Rels, err)
		}
	}
	for want, list := range invalid() {
		for _, p := range list {
			if err := pres.Check(p); err != want {
				t.Errorf("Check of %d, %.40q = %d, not %d", p.Gens, p.Rels, err, want)
			}
		}
	}
}

// P3.1
func TestText(t *testing.T) {
	for _, x := range []struct {
		p    api.Presentation
		text string
	}{
		{of(2, "aa", "abAB"), "<a, b | a^2, a b A B>"}, {of(1), "<a | >"}, {of(3), "<a, b, c | >"}, {of(1, "A"), "<a | A>"}, {of(1, a(200)), "<a | a^200>"},
		{of(8, "hHHGG"[2:], "a"), "<a, b, c, d, e, f, g, h | H G^2, a>"}, {of(2, "a", "a"), "<a, b | a, a>"},
	} {
		if text, err := pres.Text(x.p); err != api.OK || text != x.text {
			t.Errorf("Text of %d, %q = %q, %d", x.p.Gens, x.p.Rels, text, err)
		}
	}
}

// P3.1, P3.2, P3.3: the error of the presentation comes first.
func TestInvalidPresentations(t *testing.T) {
	for want, list := range invalid() {
		for _, p := range list {
			text, err := pres.Text(p)
			form, err2 := pres.Canonical(p)
			closure, err3 := pres.Symmetrized(p)
			q, forward, backward, err4 := pres.Move(p, api.Tietze{})
			cells, err5 := pres.Carry(p, api.Tietze{}, []api.Cell{{Rel: -1}})
			if err != want || err2 != want || err3 != want || err4 != want || err5 != want {
				t.Errorf("%d, %.40q: errors %d, %d, %d, %d, %d, not %d", p.Gens, p.Rels, err, err2, err3, err4, err5, want)
			}
			if text != "" || !same(form, api.Presentation{}) || !same(q, api.Presentation{}) || len(closure)+len(forward)+len(backward)+len(cells) > 0 {
				t.Errorf("%d, %.40q has results", p.Gens, p.Rels)
			}
		}
	}
}
