package disk_test

import (
	"math"
	"math/rand"
	"slices"
	"strings"
	"testing"

	"cayley/api"
	"cayley/disk"
)

func insertPair(at, letter int) api.Move {
	return api.Move{Kind: api.InsertPair, At: at, Letter: letter}
}

func deletePair(at int) api.Move { return api.Move{Kind: api.DeletePair, At: at} }

func insertRel(at, rel, shift int, inv bool) api.Move {
	return api.Move{Kind: api.InsertRel, At: at, Rel: rel, Shift: shift, Inv: inv}
}

func deleteRel(at, rel, shift int, inv bool) api.Move {
	return api.Move{Kind: api.DeleteRel, At: at, Rel: rel, Shift: shift, Inv: inv}
}

// rotated returns what a move with a relator inserts or deletes.
func rotated(p api.Presentation, m api.Move) string {
	t := side(p, m.Rel, m.Inv)
	return t[m.Shift:] + t[:m.Shift]
}

// apply applies a move that applies.
func apply(p api.Presentation, w string, m api.Move) string {
	switch m.Kind {
	case api.InsertPair:
		x := allLetters[m.Letter : m.Letter+1]
		return w[:m.At] + x + inverse(x) + w[m.At:]
	case api.DeletePair:
		return w[:m.At] + w[m.At+2:]
	case api.InsertRel:
		return w[:m.At] + rotated(p, m) + w[m.At:]
	default:
		return w[:m.At] + w[m.At+len(p.Rels[m.Rel]):]
	}
}

// deletions are the moves that delete something from a word.
func deletions(p api.Presentation, w string) moves {
	var out moves
	for i := 1; i < len(w); i++ {
		if w[i-1]^w[i] == 32 {
			out = append(out, deletePair(i-1))
		}
	}
	for rel, r := range p.Rels {
		for shift := range len(r) {
			for _, inv := range []bool{false, true} {
				m := deleteRel(0, rel, shift, inv)
				if m.At = strings.Index(w, rotated(p, m)); m.At >= 0 {
					out = append(out, m)
				}
			}
		}
	}
	return out
}

// randomMove returns a move that applies to a word.
func randomMove(r *rand.Rand, p api.Presentation, w string) api.Move {
	if list := deletions(p, w); len(list) > 0 && r.Intn(2) == 0 {
		return list[r.Intn(len(list))]
	}
	if r.Intn(2) == 0 {
		return insertPair(r.Intn(len(w)+1), r.Intn(2*p.Gens))
	}
	rel := r.Intn(len(p.Rels))
	return insertRel(r.Intn(len(w)+1), rel, r.Intn(len(p.Rels[rel])), r.Intn(2) == 0)
}

// randomMoves returns moves that apply to a word, one after the other, the word that they lead to, and a disk as the chapter says it.
func randomMoves(r *rand.Rand, p api.Presentation, w string, n int) (list moves, v string, d cells) {
	v = w
	for range n {
		m := randomMove(r, p, v)
		list = append(list, m)
		if m.Kind == api.InsertRel || m.Kind == api.DeleteRel {
			conj := reduce(v[:m.At] + inverse(side(p, m.Rel, m.Inv)[:m.Shift]))
			d = append(d, cell(conj, m.Rel, m.Inv != (m.Kind == api.InsertRel)))
		}
		v = apply(p, v, m)
	}
	return list, v, d
}

// P4.3: the chapter's examples, and each kind at the ends of a word.
func TestApply(t *testing.T) {
	p := of(3, "abAB", "ccc")
	for _, x := range []struct {
		w    string
		m    moves
		want string
	}{
		{"ba", moves{insertRel(0, 0, 0, false)}, "abABba"}, {"ba", moves{insertRel(0, 0, 0, false), deletePair(3), deletePair(2)}, "ab"}, {"", nil, ""}, {"aAb", nil, "aAb"},
		{"", moves{insertPair(0, 0)}, "aA"}, {"", moves{insertPair(0, 1)}, "Aa"}, {"ab", moves{insertPair(0, 5)}, "Ccab"}, {"ab", moves{insertPair(1, 2)}, "abBb"}, {"ab", moves{insertPair(2, 4)}, "abcC"},
		{"aA", moves{deletePair(0)}, ""}, {"Aa", moves{deletePair(0)}, ""}, {"aaAA", moves{deletePair(1), deletePair(0)}, ""}, {"abB", moves{deletePair(1)}, "a"},
		{"", moves{insertRel(0, 1, 2, true)}, "CCC"}, {"ab", moves{insertRel(2, 0, 1, false)}, "abbABa"}, {"ab", moves{insertRel(1, 0, 3, false)}, "aBabAb"}, {"ab", moves{insertRel(1, 0, 0, true)}, "abaBAb"}, {"ab", moves{insertRel(1, 0, 1, true)}, "aaBAbb"},
		{"abAB", moves{deleteRel(0, 0, 0, false)}, ""}, {"cbaBAc", moves{deleteRel(1, 0, 0, true)}, "cc"}, {"aaBAb", moves{deleteRel(1, 0, 1, true)}, "a"}, {"cccc", moves{deleteRel(1, 1, 2, false)}, "c"}, {"CCC", moves{deleteRel(0, 1, 1, true)}, ""},
		{"", moves{insertRel(0, 1, 1, false), deleteRel(0, 1, 2, false)}, ""},
		// fields that a kind does not use
		{"a", moves{{Kind: api.InsertPair, At: 1, Letter: 2, Rel: -1, Shift: 99, Inv: true}}, "abB"}, {"aA", moves{{Kind: api.DeletePair, Letter: -1, Rel: 7, Shift: -1, Inv: true}}, ""}, {"a", moves{{Kind: api.InsertRel, Letter: -1, Rel: 1}}, "ccca"}, {"ccca", moves{{Kind: api.DeleteRel, Letter: 77, Rel: 1}}, "a"},
	} {
		if v, err := disk.Apply(p, x.w, x.m); err != api.OK || v != x.want {
			t.Errorf("Apply to %q of %v = %q, %d, not %q", x.w, x.m, v, err, x.want)
		}
	}
}

// badMoves are moves that do not apply to abABcCab over the relators abAB and ccc.
func badMoves() moves {
	out := moves{{}, {Kind: 5}, {Kind: -1}, {Kind: math.MaxInt}}
	for _, at := range []int{-1, math.MinInt, 9, math.MaxInt} {
		out = append(out, insertPair(at, 0), deletePair(at), insertRel(at, 0, 0, false), deleteRel(at, 0, 0, false))
	}
	for _, x := range []int{-1, math.MinInt, 6, 15, math.MaxInt} {
		out = append(out, insertPair(0, x), insertRel(0, x, 0, false), deleteRel(0, x, 0, false), insertRel(0, 0, x, true), deleteRel(0, 0, x, true))
	}
	return append(out, insertRel(0, 0, 4, false), insertRel(0, 1, 3, false), deleteRel(0, 0, 4, false), insertRel(0, 2, 0, false), deletePair(0), deletePair(3), deletePair(7), deletePair(8),
		deleteRel(0, 0, 0, true), deleteRel(0, 0, 1, false), deleteRel(4, 0, 0, false), deleteRel(5, 0, 0, false), deleteRel(6, 0, 0, false), deleteRel(8, 0, 0, false), deleteRel(4, 1, 0, false))
}

// P4.3: moves that do not apply, as first ones, behind others, and ahead of others.
func TestMovesThatDoNotApply(t *testing.T) {
	p, w := of(3, "abAB", "ccc"), "abABcCab"
	for _, m := range badMoves() {
		for _, list := range []moves{{m}, {insertPair(4, 3), deletePair(4), m}, {deleteRel(0, 0, 0, false), insertRel(0, 0, 0, false), m}, {m, insertPair(0, 0)}} {
			v, err := disk.Apply(p, w, list)
			d, err2 := disk.FromMoves(p, w, list)
			if err != api.ErrMove || err2 != api.ErrMove || v != "" || len(d) > 0 {
				t.Errorf("Apply of %v: %q, %d; FromMoves: %v, %d", list, v, err, d, err2)
			}
		}
	}
	for _, m := range (moves{deletePair(0), deleteRel(0, 0, 0, false)}) {
		for _, w := range []string{"", "a"} {
			if _, err := disk.Apply(p, w, moves{m}); err != api.ErrMove {
				t.Errorf("Apply to %q of %v: %d", w, m, err)
			}
		}
	}
	for _, m := range (moves{insertRel(0, 0, 0, false), deleteRel(0, 0, 0, false)}) {
		if _, err := disk.Apply(of(3), w, moves{m}); err != api.ErrMove {
			t.Errorf("Apply without relators of %v: %d", m, err)
		}
	}
	if _, err := disk.Apply(of(2, "abAB"), "ab", moves{insertPair(0, 4)}); err != api.ErrMove {
		t.Errorf("Apply of a letter that is none of the presentation: %d", err)
	}
}

// P4.3
func TestLimitsOfApply(t *testing.T) {
	p := of(2, "abAB", a(200))
	both := slices.Repeat(moves{insertPair(1, 2), deletePair(1)}, 50000)
	full := a(api.MaxWord)
	for _, x := range []struct {
		w    string
		m    moves
		want api.Errno
	}{
		{"ab", both, api.OK}, {"ab", append(slices.Clone(both), deletePair(0)), api.ErrLimit}, {"ab", append(both[1:], insertPair(0, 0)), api.ErrMove}, {"ab", make(moves, 100001), api.ErrLimit}, {"ab", make(moves, 100000), api.ErrMove},
		{full, nil, api.OK}, {full, moves{insertPair(0, 0)}, api.ErrMove}, {full[1:], moves{insertPair(0, 0)}, api.ErrMove}, {full[2:], moves{insertPair(5, 0)}, api.OK}, {full[2:], moves{insertPair(5, 0), deletePair(5), insertPair(7, 0)}, api.OK}, {full[2:], moves{insertPair(5, 1), insertPair(7, 0)}, api.ErrMove},
		{full[4:], moves{insertRel(0, 0, 0, false)}, api.OK}, {full[3:], moves{insertRel(0, 0, 0, false)}, api.ErrMove}, {full[200:], moves{insertRel(99800, 1, 7, true)}, api.OK}, {full[199:], moves{insertRel(0, 1, 7, true)}, api.ErrMove}, {full, moves{deleteRel(99800, 1, 7, false), insertPair(0, 0)}, api.OK}, {full, moves{deleteRel(99801, 1, 7, false)}, api.ErrMove},
	} {
		v, err := disk.Apply(p, x.w, x.m)
		_, err2 := disk.FromMoves(p, x.w, x.m)
		if err != x.want || err2 != x.want || err != api.OK && v != "" {
			t.Errorf("%d moves on %d letters: %d, %d, not %d", len(x.m), len(x.w), err, err2, x.want)
		}
	}
}

// P4.3
func TestFromMoves(t *testing.T) {
	p := of(2, "abAB", "aa")
	for _, x := range []struct {
		w    string
		m    moves
		want cells
	}{
		{"ba", moves{insertRel(0, 0, 0, false), deletePair(3), deletePair(2)}, cells{cell("", 0, true)}}, {"ab", nil, nil}, {"ab", moves{insertPair(0, 0), deletePair(0)}, nil},
		{"aBa", moves{insertRel(1, 0, 1, true), deleteRel(1, 0, 1, true), insertPair(0, 3)}, cells{cell("aB", 0, false), cell("aB", 0, true)}},
		{"aAbB", moves{insertRel(3, 1, 1, false)}, cells{cell("bA", 1, true)}}, {"baAaa", moves{deleteRel(3, 1, 1, false)}, cells{cell("bA", 1, false)}}, {"bAA", moves{deleteRel(1, 1, 1, true)}, cells{cell("ba", 1, true)}},
		{"", moves{insertRel(0, 0, 3, false), insertPair(4, 2), insertRel(5, 1, 0, true)}, cells{cell("aBA", 0, true), cell("BabAb", 1, false)}},
		{"bbb", moves{insertRel(3, 1, 0, false), insertRel(0, 1, 0, false), insertPair(1, 3), insertRel(9, 1, 0, false)}, cells{cell("bbb", 1, true), cell("", 1, true), cell("aabbbaa", 1, true)}},
	} {
		if d, err := disk.FromMoves(p, x.w, x.m); err != api.OK || !slices.Equal(d, x.want) {
			t.Errorf("FromMoves from %q of %v = %v, %d, not %v", x.w, x.m, d, err, x.want)
		}
	}
	if b := boundary(t, plane, cells{cell("", 0, true)}); b != "baBA" {
		t.Errorf("the boundary of the example's cell is %q", b)
	}
}

// P4.3, P4.4
func TestMovesAreDisks(t *testing.T) {
	r := rand.New(rand.NewSource(4))
	for i := range 3000 {
		p := randomPresentation(r, 1+i%8)
		w := randomWord(r, p.Gens, r.Intn(10))
		list, want, cells := randomMoves(r, p, w, r.Intn(20))
		v, err := disk.Apply(p, w, list)
		d, err2 := disk.FromMoves(p, w, list)
		if err != api.OK || v != want || err2 != api.OK || !slices.Equal(d, cells) {
			t.Fatalf("%v: %v from %q: %q, %d, %v, %d; not %q, %v", p, list, w, v, err, d, err2, want, cells)
		}
		if err := disk.Proves(p, d, reduce(w+inverse(v))); err != api.OK {
			t.Errorf("%v: %v is no disk of %q by %q: %d", p, d, w, v, err)
		}
	}
}

// P4.3: the result of FromMoves has to be a valid disk; a move that doesn't apply counts ahead of that.
func TestLimitsOfFromMoves(t *testing.T) {
	p, n := of(1, "aa", a(200)), 100
	w := a(n)
	there := moves{insertRel(n, 0, 0, false), deleteRel(n, 0, 0, false)}
	full := slices.Repeat(there, api.MaxConj/n/2)
	for _, x := range []struct {
		m    moves
		want api.Errno
	}{
		{full, api.OK}, {append(slices.Clone(full), insertRel(0, 0, 0, false)), api.OK}, {append(slices.Clone(full), insertRel(1, 0, 0, false)), api.ErrLimit}, {append(slices.Clone(full), insertRel(0, 1, 1, false)), api.ErrLimit}, {slices.Repeat(there, 50000), api.ErrLimit},
		{append(slices.Clone(full), there[0], deletePair(0)), api.ErrMove}, {append(slices.Clone(full), there[0], insertPair(n+2, 0), deletePair(n+2), deleteRel(0, 1, 0, false)), api.ErrMove}, {slices.Repeat(moves{insertRel(0, 1, 0, false), deleteRel(0, 1, 0, false)}, 50000), api.OK},
	} {
		d, err := disk.FromMoves(p, w, x.m)
		if err != x.want || err != api.OK && len(d) > 0 {
			t.Errorf("FromMoves of %d moves: %d, not %d", len(x.m), err, x.want)
		}
	}
}

// balanced returns the image of a word in the integers.
func balanced(images []int, w string) int {
	sum := 0
	for i := range len(w) {
		index := strings.IndexByte(allLetters, w[i])
		sum += images[index/2] * (1 - 2*(index%2))
	}
	return sum
}

// P4.6
func TestHomomorphismsToTheIntegers(t *testing.T) {
	r := rand.New(rand.NewSource(5))
	for i := range 2000 {
		k := 2 + i%3
		images := make([]int, k)
		for i := range images {
			images[i] = r.Intn(7) - 3
		}
		p := of(k)
		for len(p.Rels) < 3 {
			if w := reduce(randomWord(r, k, 2+r.Intn(10))); w != "" && balanced(images, w) == 0 {
				p.Rels = append(p.Rels, w)
			}
			if len(p.Rels) == 0 && r.Intn(50) == 0 { // there may be no short word
				p.Rels = append(p.Rels, "abAB")
			}
		}
		w := randomWord(r, k, r.Intn(10))
		list, _, _ := randomMoves(r, p, w, 10)
		v, err := disk.Apply(p, w, list)
		if err != api.OK || balanced(images, v) != balanced(images, w) {
			t.Errorf("%v: from %q to %q by %v, %d", p, w, v, list, err)
		}
		if b := boundary(t, p, randomCells(r, p, 8)); balanced(images, b) != 0 {
			t.Errorf("%v: the image of the boundary %q", p, b)
		}
	}
}
