package disk_test

import (
	"math/rand"
	"slices"
	"strings"
	"testing"

	"cayley/api"
	"cayley/disk"
)

// relMoves returns how many moves insert or delete relators.
func relMoves(list moves) int {
	n := 0
	for _, m := range list {
		if m.Kind == api.InsertRel || m.Kind == api.DeleteRel {
			n++
		}
	}
	return n
}

// mustCollapse tests the moves of a disk of a word.
func mustCollapse(t *testing.T, p api.Presentation, d cells, w string) {
	t.Helper()
	list, err := disk.ToMoves(p, d, w)
	v, err2 := disk.Apply(p, w, list)
	if err != api.OK || err2 != api.OK || v != "" {
		t.Errorf("ToMoves of %d cells, %.80v, over %.80v for %.40q: %d, and Apply %.40q, %d", len(d), d, p, w, err, v, err2)
	}
	if relMoves(list) > len(d) || len(list) > 100000 {
		t.Errorf("ToMoves of %d cells, %.80v, over %.80v for %.40q: %d moves, %d with relators", len(d), d, p, w, len(list), relMoves(list))
	}
}

// P4.5
func TestToMoves(t *testing.T) {
	for _, d := range []cells{nil, {{}}, {cell("ab", 0, true), cell("B", 0, false), {}}, {cell("aA", 0, false), cell("", 0, true)}, {cell("abAB", 0, true)}} {
		b := reduce(product(plane, d))
		for _, w := range []string{b, "aA" + b, b + "bB", product(plane, d)} {
			mustCollapse(t, plane, d, w)
		}
	}
	mustCollapse(t, of(1), nil, "aaAaAA")
	r := rand.New(rand.NewSource(6))
	for i := range 3000 {
		p := randomPresentation(r, 1+i%8)
		d := randomCells(r, p, 8)
		w := product(p, d)
		if i%2 == 0 {
			w = reduce(w)
		}
		for range r.Intn(5) {
			w = apply(p, w, insertPair(r.Intn(len(w)+1), r.Intn(2*p.Gens)))
		}
		mustCollapse(t, p, d, w)
	}
}

// P4.4, P4.5: moves to the empty word, made into a disk, and into moves again.
func TestThereAndBack(t *testing.T) {
	r := rand.New(rand.NewSource(7))
	for i := range 500 {
		p := randomPresentation(r, 1+i%4)
		d := randomCells(r, p, 6)
		w := product(p, d)
		list, err := disk.ToMoves(p, d, w)
		e, err2 := disk.FromMoves(p, w, list)
		if err != api.OK || err2 != api.OK || len(e) > len(d) || disk.Proves(p, e, w) != api.OK {
			t.Errorf("%v: %v, %d, has become %v, %d", p, d, err, e, err2)
		}
		mustCollapse(t, p, e, w)
	}
}

// P4.5
func TestErrorsOfToMoves(t *testing.T) {
	one := of(1, "a", a(200))
	many := slices.Repeat(cells{{}, {Inv: true}}, 5000)
	for _, x := range []struct {
		p    api.Presentation
		d    cells
		w    string
		want api.Errno
	}{
		{plane, cells{{}}, "a", api.ErrProof}, {plane, cells{{}}, "", api.ErrProof}, {plane, nil, "abAB", api.ErrProof}, {plane, cells{{}}, "baBA", api.ErrProof},
		{plane, nil, strings.Repeat("aA", 10000), api.OK}, {plane, nil, strings.Repeat("aA", 10001), api.ErrLimit}, {plane, nil, a(20001), api.ErrProof}, {plane, cells{{}}, a(api.MaxWord + 1), api.ErrWord}, {plane, cells{{Rel: 1}}, a(api.MaxWord), api.ErrCell},
		{one, many, "", api.OK}, {one, many, "aA", api.ErrLimit}, {one, append(slices.Clone(many), many[:2]...), "", api.ErrLimit}, {one, append(slices.Clone(many), many[0]), "a", api.ErrLimit}, {one, append(slices.Clone(many), many[0]), "", api.ErrProof},
		{one, cells{cell(a(19997), 0, false)}, "a", api.OK}, {one, cells{cell(a(19998), 0, false)}, "a", api.ErrLimit}, {one, cells{cell(strings.Repeat("aA", 9999), 0, false)}, "a", api.ErrLimit}, {one, cells{cell("", 1, false)}, a(200), api.OK}, {one, slices.Repeat(cells{cell("", 1, true)}, 33), strings.Repeat("A", 6600), api.OK}, {one, slices.Repeat(cells{cell("", 1, true)}, 34), strings.Repeat("A", 6800), api.ErrLimit},
	} {
		if list, err := disk.ToMoves(x.p, x.d, x.w); err != x.want || err != api.OK && len(list) > 0 {
			t.Errorf("ToMoves of %d cells for %.20q, of %d letters: %d, not %d", len(x.d), x.w, len(x.w), err, x.want)
		} else if err == api.OK {
			mustCollapse(t, x.p, x.d, x.w)
		}
	}
}

// P4.5: the most moves.
func TestLargestCollapses(t *testing.T) {
	one := of(2, "a", "b")
	d := slices.Repeat(cells{cell("", 0, false), cell("", 1, true)}, 3333)
	mustCollapse(t, one, d, strings.Repeat("aB", 3333))
	d = cells{cell(strings.Repeat("ab", 1666), 0, false), cell(strings.Repeat("BBA", 1110), 1, false)}
	mustCollapse(t, one, d, reduce(product(one, d)))
	var mixed cells
	for i := range 500 {
		mixed = append(mixed, cell("aaabbbaaabbb"[i%7:], i%2, i%3 == 0))
	}
	mustCollapse(t, one, mixed, reduce(product(one, mixed)))
}
