package pres_test

import (
	"fmt"
	"math/rand"
	"slices"
	"strings"
	"testing"

	"cayley/api"
	"cayley/pres"
)

func cell(conj string, rel int, inv bool) api.Cell {
	return api.Cell{Conj: conj, Rel: rel, Inv: inv}
}

// P3.3
func TestCarry(t *testing.T) {
	two := of(2, "ab", "ba", "aa", "abab")
	twice := drop(3, cell("", 0, false), cell("aA", 0, false))
	mixed := of(2, "ab", "abbAbAB", "aa", "b")
	proof := drop(1, cell("", 0, false), cell("b", 1, true), cell("bBba", 2, false)) // ab bAAB babAB
	for _, x := range []struct {
		p      api.Presentation
		m      api.Tietze
		d, out cells
	}{
		{of(3, "cBA", "ccc"), dropGen(0), cells{cell("c", 1, false)}, cells{cell("ab", 0, false)}},
		{of(3, "cBA", "ccc"), dropGen(0), cells{cell("cA", 1, true), cell("a", 0, true), cell("CC", 1, false)}, cells{cell("abA", 0, true), cell("BABA", 0, false)}},
		{of(3, "c", "acA", "b"), dropGen(0), cells{cell("a", 2, false)}, cells{cell("a", 0, false)}},
		{of(2, "aa", "aB", "bA", "abAB", "bb"), dropGen(1), cells{cell("aA", 4, true), cell("b", 3, true), cell("bA", 0, false), cell("", 1, false), cell("", 2, false)}, cells{cell("", 1, true), cell("", 0, false)}},
		{of(1, "aa"), add("aa", cell("", 0, false)), cells{cell("aA", 0, true)}, cells{cell("aA", 0, true)}}, {of(1, "aa"), addGen("a"), cells{cell("aA", 0, true), cell("", 0, false)}, cells{cell("aA", 0, true), cell("", 0, false)}}, {of(1), addGen(""), nil, nil},
		{two, twice, cells{cell("bA", 3, false)}, cells{cell("bA", 0, false), cell("bA", 0, false)}}, {two, twice, cells{cell("aA", 2, true), cell("bA", 3, true), cell("b", 0, false)}, cells{cell("aA", 2, true), cell("bA", 0, true), cell("bA", 0, true), cell("b", 0, false)}},
		{mixed, proof, cells{cell("B", 1, false), cell("aA", 2, true), cell("", 3, false)}, cells{cell("B", 0, false), cell("", 1, true), cell("a", 2, false), cell("aA", 1, true), cell("", 2, false)}},
		{mixed, proof, cells{cell("B", 1, true), cell("aA", 0, false)}, cells{cell("a", 2, true), cell("", 1, false), cell("B", 0, true), cell("aA", 0, false)}},
	} {
		out, err := pres.Carry(x.p, x.m, x.d)
		if err != api.OK || !slices.Equal(out, x.out) {
			t.Errorf("Carry of %v by %v: %v, %d, not %v", x.p, x.m, out, err, x.out)
		}
	}
}

// P3.4
func TestDisksAreCarried(t *testing.T) {
	r := rand.New(rand.NewSource(11))
	for i := range 4000 {
		p, m := randomMove(r, 1+i%4)
		q, forward, _, err := pres.Move(p, m)
		if err != api.OK {
			t.Fatalf("Move of %v by %v: %d", p, m, err)
		}
		d := randomCells(r, p, 6)
		out, err := pres.Carry(p, m, d)
		if err != api.OK {
			t.Fatalf("Carry of %v by %v of %v: %d", p, m, d, err)
		}
		if boundary(q, out) != reduce(product(forward, boundary(p, d))) {
			t.Errorf("Carry of %v by %v of %v: %v has another boundary", p, m, d, out)
		}
	}
}

// P3.3: the cells that are no valid ones, for each kind of move.
func TestCarryForm(t *testing.T) {
	r := rand.New(rand.NewSource(12))
	for i := range 200 {
		p, m := randomMove(r, 1+i%4)
		n := len(p.Rels)
		if n == 0 {
			continue
		}
		good := cell("a", n-1, true)
		next := "abcdefgh"[p.Gens : p.Gens+1]
		for _, bad := range []api.Cell{cell("", n, false), cell("", -1, false), cell("?", 0, false), cell(next, 0, false), cell("a"+inverse(next), 0, false), cell("a b", 0, true), cell(a(api.MaxWord+1), 0, false)} {
			for _, d := range []cells{{bad}, {good, bad}, {bad, good}} {
				if out, err := pres.Carry(p, m, d); err != api.ErrForm || len(out) > 0 {
					t.Errorf("Carry of %v by %v of %.40q: %d", p, m, bad.Conj, err)
				}
			}
		}
		if out, err := pres.Carry(p, m, slices.Repeat(cells{good}, api.MaxCells+1)); err != api.ErrForm || len(out) > 0 {
			t.Errorf("Carry of %v by %v of too many cells: %d", p, m, err)
		}
	}
}

// P3.3
func TestCarryLimits(t *testing.T) {
	const n = api.MaxWord
	z := of(1, "aa", "aaaa")
	twice := drop(1, cell("", 0, false), cell("", 0, false))
	far := drop(1, cell(a(n/2), 0, false), cell("", 0, false))
	trivial := strings.Repeat("aA", n/2)
	half := func(count int) cells { return slices.Repeat(cells{cell("", 1, true)}, count) }
	for _, x := range []struct {
		p     api.Presentation
		m     api.Tietze
		d     cells
		count int
		err   api.Errno
	}{
		{z, twice, half(api.MaxCells / 2), api.MaxCells, 0}, {z, twice, half(api.MaxCells/2 + 1), 0, api.ErrLimit}, {z, twice, half(api.MaxCells), 0, api.ErrLimit}, {z, twice, append(half(api.MaxCells/2), cell("", 0, false)), 0, api.ErrLimit}, {z, twice, append(half(api.MaxCells/2-1), cell("", 0, false), cell("a", 0, true)), api.MaxCells, 0}, {z, twice, append(half(api.MaxCells), cell("", 0, false)), 0, api.ErrForm}, {z, twice, slices.Repeat(cells{cell("", 0, false)}, api.MaxCells), api.MaxCells, 0},
		{z, twice, cells{cell(a(n), 1, false), cell(a(n), 0, true)}, 3, 0}, {z, twice, cells{cell(trivial, 1, false)}, 2, 0}, {z, far, cells{cell(a(n/2), 1, false)}, 2, 0}, {z, far, cells{cell(a(n/2+1), 1, false)}, 0, api.ErrLimit}, {z, far, cells{cell("", 1, false), cell(strings.ToUpper(a(n/2+1)), 1, true)}, 0, api.ErrLimit}, {z, far, cells{cell(trivial, 1, false)}, 0, api.ErrLimit}, {z, far, cells{cell(a(n), 0, false)}, 1, 0},
		{z, addGen(""), cells{cell(trivial, 0, false)}, 1, 0}, {z, addGen(""), slices.Repeat(cells{cell("", 0, false)}, api.MaxCells), api.MaxCells, 0}, {z, add("AA", cell("", 0, true)), cells{cell(a(n), 0, false)}, 1, 0},
		{of(2, "bAA", "aaa"), dropGen(0), cells{cell(strings.Repeat("b", n/2), 1, false)}, 1, 0}, {of(2, "bAA", "aaa"), dropGen(0), cells{cell(strings.Repeat("b", n/2)+"a", 1, false)}, 0, api.ErrLimit}, {of(2, "bAA", "aaa"), dropGen(0), cells{cell(strings.Repeat("bB", n/4)+"B", 1, false)}, 0, api.ErrLimit}, {of(2, "bAA", "aaa", "Baa"), dropGen(0), cells{cell(strings.Repeat("b", n), 0, false), cell(strings.Repeat("b", n), 2, false), cell("", 1, true)}, 1, 0}, {of(2, "bAA", "aaa"), dropGen(0), cells{cell("", 0, false), cell(strings.Repeat("b", n), 1, false)}, 0, api.ErrLimit},
	} {
		out, err := pres.Carry(x.p, x.m, x.d)
		if err != x.err || len(out) != x.count {
			t.Errorf("Carry of %q by %d of %d cells: %d, %d, not %d, %d", x.p.Rels, x.m.Kind, len(x.d), len(out), err, x.count, x.err)
		}
	}
}

// P3.1, P3.2, P3.3 (R2): arguments are neither changed nor kept, nor are results.
func TestMemory(t *testing.T) {
	r := rand.New(rand.NewSource(13))
	for i := range 200 {
		p, m := randomMove(r, 1+i%4)
		d := randomCells(r, p, 4)
		p2, m2, d2 := of(p.Gens, roomy(p.Rels)...), m, roomy(d)
		m2.Proof = roomy(m.Proof)
		results := allResults(p2, m2, d2)
		want := fmt.Sprint(results)
		if !same(p, p2) || !slices.Equal(m.Proof, m2.Proof) || !slices.Equal(d, d2) {
			t.Fatalf("%v, %v, %v: the arguments are %v, %v, %v", p, m, d, p2, m2, d2)
		}
		spoil(p2.Rels, m2.Proof, d2)
		if fmt.Sprint(results) != want {
			t.Fatalf("%v, %v, %v: results change with the arguments", p, m, d)
		}
		spoil(results...)
		if fmt.Sprint(allResults(p, m, d)) != want {
			t.Fatalf("%v, %v, %v: results change with earlier ones", p, m, d)
		}
	}
}

// allResults returns the lists that the functions return of the arguments.
func allResults(p api.Presentation, m api.Tietze, d cells) []any {
	q, forward, backward, _ := pres.Move(p, m)
	carried, _ := pres.Carry(p, m, d)
	form, _ := pres.Canonical(p)
	closure, _ := pres.Symmetrized(p)
	return []any{q.Rels, forward, backward, carried, form.Rels, closure}
}

// roomy returns a copy of a list with room behind its end.
func roomy[T any](list []T) []T {
	return slices.Grow(slices.Clone(list), 4)
}

// spoil overwrites lists, also behind their ends.
func spoil(lists ...any) {
	for _, list := range lists {
		switch list := list.(type) {
		case []string:
			list = list[:cap(list)]
			for i := range list {
				list[i] = "spoilt"
			}
		case []api.Cell:
			list = list[:cap(list)]
			for i := range list {
				list[i] = cell("spoilt", -1, true)
			}
		}
	}
}
