package pres_test

import (
	"math"
	"math/rand"
	"slices"
	"strings"
	"testing"

	"cayley/api"
	"cayley/pres"
)

type cells = []api.Cell

func add(w string, proof ...api.Cell) api.Tietze {
	return api.Tietze{Kind: api.TzAddRel, Word: w, Proof: proof}
}

func drop(rel int, proof ...api.Cell) api.Tietze {
	return api.Tietze{Kind: api.TzDropRel, Rel: rel, Proof: proof}
}

func addGen(w string) api.Tietze {
	return api.Tietze{Kind: api.TzAddGen, Word: w}
}

func dropGen(rel int) api.Tietze {
	return api.Tietze{Kind: api.TzDropGen, Rel: rel}
}

// boundary returns the boundary of valid cells by the definition.
func boundary(p api.Presentation, d cells) string {
	var out strings.Builder
	for _, c := range d {
		r := p.Rels[c.Rel]
		if c.Inv {
			r = inverse(r)
		}
		out.WriteString(c.Conj + r + inverse(c.Conj))
	}
	return reduce(out.String())
}

// identity returns the letters of k generators.
func identity(k int) []string {
	return strings.Split("abcdefgh"[:k], "")
}

// P3.3
func TestMove(t *testing.T) {
	for _, x := range []struct {
		p                 api.Presentation
		m                 api.Tietze
		q                 api.Presentation
		forward, backward string
	}{
		{of(2, "abAB"), add("aabAAB", api.Cell{Conj: "a"}, api.Cell{}), of(2, "abAB", "aabAAB"), "a b", "a b"},
		{of(1, "aa"), add("AA", api.Cell{Inv: true}), of(1, "aa", "AA"), "a", "a"},
		{of(1, "aa"), add("aa", api.Cell{Conj: "aA"}), of(1, "aa", "aa"), "a", "a"},
		{of(1, "aa", "aaa"), add("a", api.Cell{Rel: 1}, api.Cell{Inv: true}), of(1, "aa", "aaa", "a"), "a", "a"},
		{of(1, "aa", "aaaa"), drop(1, api.Cell{}, api.Cell{}), of(1, "aa"), "a", "a"},
		{of(1, "aaaa", "aa", "A"), drop(0, api.Cell{}, api.Cell{}), of(1, "aa", "A"), "a", "a"},
		{of(1, "a", "aa", "aaa"), drop(1, api.Cell{Rel: 1}, api.Cell{Inv: true}), of(1, "a", "aaa"), "a", "a"},
		{of(1, "a", "a"), drop(0, api.Cell{}), of(1, "a"), "a", "a"},
		{of(2), addGen("ab"), of(3, "cBA"), "a b", "a b ab"}, {of(1, "aa"), addGen(""), of(2, "aa", "b"), "a", "a "}, {of(2), addGen("aAb"), of(3, "cB"), "a b", "a b aAb"}, {of(7), addGen("G"), of(8, "hg"), "a b c d e f g", "a b c d e f g G"},
		{of(3, "cBA", "ccc"), dropGen(0), of(2, "ababab"), "a b ab", "a b"}, {of(3, "ccc", "bCa"), dropGen(1), of(2, "ababab"), "a b ab", "a b"},
		{of(3, "aacb", "acB"), dropGen(0), of(2, "ABB"), "a b AAB", "a b"}, {of(3, "aaCb", "acB"), dropGen(0), of(2, "abaaB"), "a b baa", "a b"},
		{of(3, "aaCA", "c"), dropGen(0), of(2, "a"), "a b a", "a b"}, {of(3, "aacA", "c"), dropGen(0), of(2, "A"), "a b A", "a b"},
		{of(2, "b", "abAB", "aa", "bb"), dropGen(0), of(1, "aa"), "a ", "a"}, {of(2, "aa", "aB", "bA", "abAB", "bb"), dropGen(1), of(1, "aa", "aa"), "a a", "a"}, {of(2, "baB", "B"), dropGen(1), of(1, "a"), "a ", "a"}, {of(8, "hG"), dropGen(0), of(7), "a b c d e f g g", "a b c d e f g"},
	} {
		q, forward, backward, err := pres.Move(x.p, x.m)
		if err != api.OK || !same(q, x.q) || strings.Join(forward, " ") != x.forward || strings.Join(backward, " ") != x.backward {
			t.Errorf("Move of %v by %v: %v, %q, %q, %d", x.p, x.m, q, forward, backward, err)
		}
		m := withOthers(x.m)
		if q, _, _, err := pres.Move(x.p, m); err != api.OK || !same(q, x.q) {
			t.Errorf("Move of %v by %v: %v, %d", x.p, m, q, err)
		}
	}
}

// withOthers returns a move with values in the fields that its kind does not use.
func withOthers(m api.Tietze) api.Tietze {
	if m.Kind == api.TzAddRel || m.Kind == api.TzAddGen {
		m.Rel = -7
	} else {
		m.Word = "?"
	}
	if m.Kind == api.TzAddGen || m.Kind == api.TzDropGen {
		m.Proof = cells{{Conj: "?", Rel: 9}}
	}
	return m
}

// refusal is a move that is not possible.
type refusal struct {
	p   api.Presentation
	m   api.Tietze
	err api.Errno
}

func badKinds() []refusal {
	var out []refusal
	for _, kind := range []int{0, 5, -1, math.MaxInt, math.MinInt} {
		out = append(out, refusal{of(1, "a"), api.Tietze{Kind: kind, Rel: -1, Word: "?", Proof: cells{{Rel: 9}}}, api.ErrTietze})
	}
	return out
}

func badRelators() []refusal {
	full, long, much := of(1, slices.Repeat([]string{"a"}, 60)...), a(201), make(cells, api.MaxCells+1)
	for i := range much {
		much[i].Inv = i%2 == 1
	}
	return []refusal{
		{full, add("a", api.Cell{}), api.ErrLimit}, {full, add("?"), api.ErrLimit}, {full, add(""), api.ErrLimit}, {of(1, "a"), add(long, make(cells, 201)...), api.ErrLimit}, {of(1, "a"), add(strings.Repeat("?", 201)), api.ErrLimit}, {of(1, "a"), add(strings.Repeat("?", 200)), api.ErrForm},
		{of(2), add(""), api.ErrForm}, {of(2), add("aA"), api.ErrForm}, {of(2, "a"), add("bBa", api.Cell{}), api.ErrForm}, {of(2), add("c"), api.ErrForm}, {of(2), add("C", api.Cell{Rel: 9}), api.ErrForm}, {of(2), add("1"), api.ErrForm},
		{of(2), add("a"), api.ErrProof}, {of(2, "a"), add("a"), api.ErrProof}, {of(2, "a"), add("A", api.Cell{}), api.ErrProof}, {of(2, "a"), add("a", api.Cell{}, api.Cell{}), api.ErrProof}, {of(2, "a"), add("b", api.Cell{}), api.ErrProof}, {of(2, "a"), add("a", api.Cell{Conj: "b"}), api.ErrProof}, {of(2, "ab"), add("ba", api.Cell{}), api.ErrProof},
		{of(2, "a"), add("a", api.Cell{Rel: 1}), api.ErrProof}, {of(2, "a"), add("a", api.Cell{Rel: -1}), api.ErrProof}, {of(2, "a"), add("a", api.Cell{Conj: "?"}), api.ErrProof}, {of(2, "a"), add("a", api.Cell{Conj: "c"}), api.ErrProof}, {of(1, "a"), add("a", api.Cell{Conj: a(api.MaxWord + 1)}), api.ErrProof}, {of(1, "a"), add("a", much...), api.ErrProof}, {of(1, "a"), add("A", much[1:]...), api.ErrProof},
		{of(2), drop(0), api.ErrArg}, {of(2, "a"), drop(1), api.ErrArg}, {of(2, "a"), drop(-1, api.Cell{Rel: 9}), api.ErrArg}, {of(2, "a"), drop(math.MaxInt), api.ErrArg}, {of(2, "a"), drop(math.MinInt), api.ErrArg},
		{of(1, "a"), drop(0), api.ErrProof}, {of(1, "a"), drop(0, api.Cell{}), api.ErrProof}, {of(1, "a", "aa"), drop(1, api.Cell{Rel: 1}), api.ErrProof}, {of(1, "a", "aa"), drop(1, api.Cell{}), api.ErrProof}, {of(1, "a", "aa"), drop(1, api.Cell{}, api.Cell{Conj: "b"}), api.ErrProof}, {of(1, "aa", "a"), drop(0, api.Cell{Rel: 1}, api.Cell{Rel: 1}), api.ErrProof}, {of(1, "a", "a"), drop(0, much...), api.ErrProof},
	}
}

func badGenerators() []refusal {
	full := of(1, slices.Repeat([]string{"a"}, 60)...)
	return []refusal{
		{of(8), addGen("a"), api.ErrLimit}, {of(8), addGen("?"), api.ErrLimit}, {full, addGen("a"), api.ErrLimit}, {of(1), addGen(a(200)), api.ErrLimit}, {of(1), addGen(strings.Repeat("aA", 100)), api.ErrLimit}, {of(1), addGen(strings.Repeat("?", 200)), api.ErrLimit},
		{of(1), addGen(strings.Repeat("?", 199)), api.ErrForm}, {of(2), addGen("c"), api.ErrForm}, {of(2), addGen("C"), api.ErrForm}, {of(2), addGen("1"), api.ErrForm}, {of(2), addGen("a b"), api.ErrForm},
		{of(1), dropGen(0), api.ErrArg}, {of(2), dropGen(0), api.ErrArg}, {of(2, "b"), dropGen(1), api.ErrArg}, {of(2, "b"), dropGen(-1), api.ErrArg}, {of(2, "b"), dropGen(math.MaxInt), api.ErrArg}, {of(2, "b"), dropGen(math.MinInt), api.ErrArg},
		{of(1, "a"), dropGen(0), api.ErrTietze}, {of(1, "A", a(200)), dropGen(0), api.ErrTietze}, {of(2, "a"), dropGen(0), api.ErrTietze}, {of(2, "bb"), dropGen(0), api.ErrTietze}, {of(2, "baB"), dropGen(0), api.ErrTietze}, {of(2, "abAB", "b"), dropGen(0), api.ErrTietze}, {of(3, "ab"), dropGen(0), api.ErrTietze}, {of(3, "bc", "cac"), dropGen(1), api.ErrTietze},
		{of(2, "bAA", strings.Repeat("b", 101)), dropGen(0), api.ErrLimit}, {of(2, "a", "bAA", strings.Repeat("B", 101), "a"), dropGen(1), api.ErrLimit}, {of(2, "b"+a(199), strings.Repeat("b", 200)), dropGen(0), api.ErrLimit}, {of(2, "bAA", strings.Repeat("b", 101), "bb"), dropGen(2), api.ErrTietze},
	}
}

// P3.3: the errors of a move, in their order, which Carry has too.
func TestMoveErrors(t *testing.T) {
	for _, x := range slices.Concat(badKinds(), badRelators(), badGenerators()) {
		q, forward, backward, err := pres.Move(x.p, x.m)
		if err != x.err || !same(q, api.Presentation{}) || len(forward)+len(backward) > 0 {
			t.Errorf("Move of %.60q by %d, %d, %.40q: %d, not %d", x.p.Rels, x.m.Kind, x.m.Rel, x.m.Word, err, x.err)
		}
		for _, d := range []cells{nil, {{}}, {{Rel: -1}}} {
			if out, err := pres.Carry(x.p, x.m, d); err != x.err || len(out) > 0 {
				t.Errorf("Carry of %.60q by %d, %d, %.40q: %d, not %d", x.p.Rels, x.m.Kind, x.m.Rel, x.m.Word, err, x.err)
			}
		}
	}
}

// P3.3: moves at the limits.
func TestMoveLimits(t *testing.T) {
	almost := of(1, slices.Repeat([]string{"a"}, 59)...)
	much := make(cells, api.MaxCells-1)
	for i := range much {
		much[i] = api.Cell{Conj: "aaa", Inv: i%2 == 1}
	}
	for _, x := range []struct {
		p    api.Presentation
		m    api.Tietze
		rels int
	}{
		{almost, add("a", api.Cell{}), 60}, {of(1, "a"), add(a(200), make(cells, 200)...), 2}, {almost, addGen(""), 60}, {of(1), addGen(a(199)), 1}, {of(7), addGen(strings.Repeat("aA", 99)), 1}, {of(1, "a"), add("a", much...), 2}, {of(1, "a"), add("a", api.Cell{Conj: a(api.MaxWord)}), 2},
		{of(1, slices.Repeat([]string{"a"}, 60)...), drop(30, api.Cell{Rel: 58}), 59}, {of(2, "bAA", strings.Repeat("b", 100)), dropGen(0), 1}, {of(2, "b"+a(199), "b"+a(198)+"B"), dropGen(0), 1}, {of(2, "b"+a(199), "b"), dropGen(0), 1},
	} {
		q, _, _, err := pres.Move(x.p, x.m)
		if err != api.OK || len(q.Rels) != x.rels || pres.Check(q) != api.OK {
			t.Errorf("Move of %.60q by %d, %.40q: %d relators, %d", x.p.Rels, x.m.Kind, x.m.Word, len(q.Rels), err)
		}
	}
}

// randomCells returns valid cells over a presentation.
func randomCells(r *rand.Rand, p api.Presentation, most int) cells {
	var out cells
	for range r.Intn(most + 1) {
		if len(p.Rels) > 0 {
			out = append(out, api.Cell{Conj: randomWord(r, p.Gens, r.Intn(5)), Rel: r.Intn(len(p.Rels)), Inv: r.Intn(2) == 0})
		}
	}
	return out
}

// randomDisk returns cells over a presentation whose boundary may be a relator, or no cells.
func randomDisk(r *rand.Rand, p api.Presentation) cells {
	d := randomCells(r, p, 4)
	if w := boundary(p, d); w == "" || len(w) > api.MaxRel {
		return nil
	}
	return d
}

// randomMove returns a presentation and a move of a kind that is possible.
func randomMove(r *rand.Rand, kind int) (api.Presentation, api.Tietze) {
	for {
		k := 1 + r.Intn(3)
		p := randomPresentation(r, k)
		d := randomDisk(r, p)
		switch {
		case kind == api.TzAddGen:
			return p, addGen(randomWord(r, k, r.Intn(8)))
		case kind == api.TzDropGen:
			return randomDropGen(r, k)
		case len(d) == 0:
			continue
		case kind == api.TzAddRel:
			return p, add(boundary(p, d), d...)
		}
		at := r.Intn(len(p.Rels) + 1)
		return of(k, slices.Insert(slices.Clone(p.Rels), at, boundary(p, d))...), drop(at, d...)
	}
}

// randomDropGen returns a presentation with one generator more than k, and a move that removes it; some relators vanish with it.
func randomDropGen(r *rand.Rand, k int) (api.Presentation, api.Tietze) {
	x := "abcdefgh"[k : k+1]
	if r.Intn(2) == 0 {
		x = inverse(x)
	}
	relator := reduce(randomWord(r, k, r.Intn(5))) + x + reduce(randomWord(r, k, r.Intn(5)))
	p := randomPresentation(r, k+1)
	if r.Intn(2) == 0 {
		all := turns(relator)
		p.Rels = append(p.Rels, all[r.Intn(len(all))])
	}
	at := r.Intn(len(p.Rels) + 1)
	p.Rels = slices.Insert(p.Rels, at, relator)
	return p, dropGen(at)
}

// fieldCells returns the cells that take the word w, with the letters of one generator replaced by its image, back to w: the cells of one relator, u x v or u x^-1 v, that says that the generator is equal to the image.
func fieldCells(w string, x byte, rel int, relator string) cells {
	at := strings.IndexAny(relator, string([]byte{x, x ^ 32}))
	u, v := relator[:at], relator[at+1:]
	var out cells
	for i := range len(w) {
		switch w[i] {
		case relator[at]: // its image is u^-1 v^-1
			out = append(out, api.Cell{Conj: w[:i] + inverse(u), Rel: rel, Inv: true})
		case relator[at] ^ 32: // its image is v u
			out = append(out, api.Cell{Conj: w[:i] + v, Rel: rel})
		}
	}
	return out
}

// P3.5
func TestThereAndBack(t *testing.T) {
	r := rand.New(rand.NewSource(9))
	for i := range 2000 {
		kind := 1 + i%4
		p, m := randomMove(r, kind)
		q, forward, backward, err := pres.Move(p, m)
		if err != api.OK {
			t.Fatalf("Move of %v by %v: %d", p, m, err)
		}
		w, v := randomWord(r, p.Gens, r.Intn(12)), randomWord(r, q.Gens, r.Intn(12))
		there := image(t, p.Gens, backward, image(t, q.Gens, forward, w))
		back := image(t, q.Gens, forward, image(t, p.Gens, backward, v))
		var ofW, ofV cells
		switch kind {
		case api.TzAddGen:
			rel := len(q.Rels) - 1
			ofV = fieldCells(v, "abcdefgh"[p.Gens], rel, q.Rels[rel])
		case api.TzDropGen:
			ofW = fieldCells(w, "abcdefgh"[q.Gens], m.Rel, p.Rels[m.Rel])
		}
		if reduce(there+inverse(w)) != boundary(p, ofW) || reduce(back+inverse(v)) != boundary(q, ofV) {
			t.Errorf("%v, %v: %q goes to %q, and %q to %q", p, m, w, there, v, back)
		}
	}
}

// P3.3: the relators of the new presentation are the images of the others, and the one that is added.
func TestMovesMapRelators(t *testing.T) {
	r := rand.New(rand.NewSource(10))
	for i := range 1000 {
		p, m := randomMove(r, 1+i%4)
		q, forward, backward, err := pres.Move(p, m)
		if err != api.OK || pres.Check(q) != api.OK || len(forward) != p.Gens || len(backward) != q.Gens {
			t.Fatalf("Move of %v by %v: %v, %d", p, m, q, err)
		}
		var images []string
		for at, relator := range p.Rels {
			w := reduce(product(forward, relator))
			if at == m.Rel && m.Kind == api.TzDropGen && w != "" {
				t.Errorf("%v, %v: the relator of the generator does not vanish", p, m)
			}
			if w != "" && (at != m.Rel || m.Kind != api.TzDropRel) {
				images = append(images, w)
			}
		}
		switch m.Kind {
		case api.TzAddRel:
			images = append(images, m.Word)
		case api.TzAddGen:
			images = append(images, reduce("abcdefgh"[p.Gens:q.Gens]+inverse(m.Word)))
		}
		if !slices.Equal(q.Rels, images) {
			t.Errorf("%v, %v: relators %q, not %q", p, m, q.Rels, images)
		}
		if !slices.Equal(backward[:min(p.Gens, q.Gens)], identity(min(p.Gens, q.Gens))) {
			t.Errorf("%v, %v: backward is %q", p, m, backward)
		}
	}
}
