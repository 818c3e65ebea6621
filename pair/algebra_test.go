package pair_test

import (
	"math/rand"
	"slices"
	"testing"

	"cayley/api"
	"cayley/fsa"
	"cayley/pair"
)

// P8.1: the normal automaton, of the chapter's words and others.
func TestNormal(t *testing.T) {
	pad := []int{0, 0, 1, 0, 0, 1, 2, 2}
	row := func(from, to int) []int {
		r := slices.Repeat([]int{-1}, 8)
		for x := from; x < to; x++ {
			r[x] = 2
		}
		return r
	}
	behind := slices.Repeat([]int{-1}, 8)
	behind[2], behind[5] = 1, 1
	every := auto(8, "111", pad, behind, row(6, 8))
	turned := api.Automaton{Symbols: 8, Start: 1, Accept: []bool{false, true}, Next: [][]int{row(0, 0), {1, -1, -1, -1, 1, -1, -1, -1}}}
	for name, x := range map[string]struct{ a, want api.Automaton }{
		"all":                 {all(8), every},
		"all, normal":         {every, every},
		"no states":           {none(8), none(8)},
		"no acceptance":       {auto(8, "0", make([]int, 8)), none(8)},
		"no code but one":     {auto(8, "10", []int{-1, -1, 1, -1, -1, -1, -1, -1}, []int{0, 0, -1, -1, -1, -1, 0, 0}), auto(8, "1", slices.Repeat([]int{-1}, 8))},
		"equal words":         {turned, auto(8, "1", []int{0, -1, -1, -1, 0, -1, -1, -1})},
		"a letter and nobody": {relation(t, 2, join([]int{1}, nil)), auto(8, "01", []int{-1, -1, -1, -1, -1, 1, -1, -1}, slices.Repeat([]int{-1}, 8))},
	} {
		a, err := pair.Normal(2, x.a)
		mustBe(t, name, a, err, x.want)
	}
}

// P8.1: normal automata have the same relations, and are their own normal automata.
func TestNormalSamples(t *testing.T) {
	for n, a := range samples(82, 1000) {
		b, err := pair.Normal(n, a)
		mustRelate(t, "Normal of "+brief(a), n, b, err, func(u, v []int) bool { return related(n, a, u, v) })
		c, err := pair.Normal(n, b)
		mustBe(t, "Normal of Normal", c, err, b)
	}
}

// P8.2: the chapter's examples, and those with words in the middle that are longer, or end sooner.
func TestCompose(t *testing.T) {
	a := relation(t, 2, join([]int{0}, []int{0, 1}))
	b := relation(t, 2, join([]int{0, 1}, nil))
	c, err := pair.Compose(2, a, b)
	mustBe(t, "the chapter's", c, err, relation(t, 2, join([]int{0}, nil)))
	p, err := pair.Project(2, 1, a)
	mustBe(t, "Project on tape 1", p, err, language(t, 2, []int{0, 1}))

	long := make([]int, 19990)
	a = relation(t, 2, join([]int{0}, long), join(nil, nil), join([]int{1, 1}, nil), join([]int{1}, []int{1}))
	b = relation(t, 2, join(long, []int{1, 1, 1}), join(nil, []int{0, 0}), join(long[1:], []int{0, 1}), join([]int{1}, nil))
	c, err = pair.Compose(2, a, b)
	mustBe(t, "a long middle", c, err, relation(t, 2, join([]int{0}, []int{1, 1, 1}), join(nil, []int{0, 0}), join([]int{1, 1}, []int{0, 0}), join([]int{1}, nil)))

	c, err = pair.Compose(2, all(8), all(8))
	every, _ := pair.Normal(2, all(8))
	mustBe(t, "all pairs", c, err, every)
	for name, x := range map[string][2]api.Automaton{"no states ahead": {none(8), all(8)}, "no states behind": {all(8), none(8)}, "no middle": {relation(t, 2, join([]int{0}, []int{0, 1})), relation(t, 2, join([]int{0}, []int{1}))}} {
		c, err = pair.Compose(2, x[0], x[1])
		mustBe(t, name, c, err, none(8))
	}
	// The first word is empty, and the one in the middle ends where the third one goes on: so a is not read by the first automaton again.
	a = relation(t, 2, join(nil, nil), join([]int{0}, nil))
	b = relation(t, 2, join(nil, []int{1}), join(nil, []int{1, 1}))
	c, err = pair.Compose(2, a, b)
	mustBe(t, "ends", c, err, relation(t, 2, join(nil, []int{1}), join(nil, []int{1, 1}), join([]int{0}, []int{1}), join([]int{0}, []int{1, 1})))
}

// P8.2: compositions, for all pairs of short words, with middle words of any length.
func TestComposeSamples(t *testing.T) {
	r := rand.New(rand.NewSource(83))
	for range 1500 {
		n := 1 + r.Intn(2)
		a, b := random(r, 4, symbols(n), 1+r.Intn(5)), random(r, 4, symbols(n), 1+r.Intn(5))
		c, err := pair.Compose(n, a, b)
		mustRelate(t, "Compose "+brief(a)+" "+brief(b), n, c, err, func(u, w []int) bool { return hasMiddle(n, a, b, u, w) })
	}
	var small []api.Automaton
	for a := range every(1, 3) {
		small = append(small, a)
	}
	i := 0
	for n, a := range samples(84, 0) {
		b := small[i/8%len(small)]
		i++
		c, err := pair.Compose(n, a, b)
		mustRelate(t, "Compose "+brief(a)+" "+brief(b), n, c, err, func(u, w []int) bool { return hasMiddle(n, a, b, u, w) })
		c, err = pair.Compose(n, b, a)
		mustRelate(t, "Compose "+brief(b)+" "+brief(a), n, c, err, func(u, w []int) bool { return hasMiddle(n, b, a, u, w) })
	}
}

// P8.2: converses and projections. What is projected is what has a middle word with the relation of all words and the empty one.
func TestConverseProject(t *testing.T) {
	for n, a := range samples(85, 1500) {
		c, err := pair.Converse(n, a)
		mustRelate(t, "Converse of "+brief(a), n, c, err, func(u, v []int) bool { return related(n, a, v, u) })
		toEmpty := auto(symbols(n), "1", slices.Repeat([]int{-1}, symbols(n)))
		for x := range n {
			toEmpty.Next[0][symbol(n, x, n)] = 0
		}
		for tape, b := range []api.Automaton{a, swapped(n, a)} {
			p, err := pair.Project(n, tape, a)
			if err != api.OK || !fsa.IsCanon(p) || p.Symbols != n {
				t.Fatalf("Project of %s on %d: %s, %d", brief(a), tape, brief(p), err)
			}
			for u := range words(n, depth(n)+1) {
				if accepts(p, u) != hasMiddle(n, b, toEmpty, u, nil) {
					t.Fatalf("Project of %s on %d: %s accepts %v: %v", brief(a), tape, brief(p), u, accepts(p, u))
				}
			}
		}
	}
}

// P8.2: combinations.
func TestCombine(t *testing.T) {
	r := rand.New(rand.NewSource(86))
	for range 1500 {
		n := 1 + r.Intn(2)
		a, b := random(r, 4, symbols(n), 1+r.Intn(4)), random(r, 4, symbols(n), 1+r.Intn(4))
		for op, is := range map[int]func(x, y bool) bool{
			api.FsaAnd:   func(x, y bool) bool { return x && y },
			api.FsaOr:    func(x, y bool) bool { return x || y },
			api.FsaMinus: func(x, y bool) bool { return x && !y },
			api.FsaXor:   func(x, y bool) bool { return x != y },
		} {
			c, err := pair.Combine(n, op, a, b)
			mustRelate(t, "Combine "+brief(op)+" "+brief(a)+" "+brief(b), n, c, err, func(u, v []int) bool {
				return is(related(n, a, u, v), related(n, b, u, v))
			})
		}
	}
}

// P8.2: restrictions and diagonals.
func TestRestrictDiagonal(t *testing.T) {
	r := rand.New(rand.NewSource(87))
	for range 1500 {
		n := 1 + r.Intn(2)
		a := random(r, 4, symbols(n), 1+r.Intn(4))
		first, second := random(r, 3, n, 1+r.Intn(6)), random(r, 3, n, 1+r.Intn(6))
		c, err := pair.Restrict(n, a, first, second)
		mustRelate(t, "Restrict "+brief(a)+" "+brief(first)+" "+brief(second), n, c, err, func(u, v []int) bool {
			return related(n, a, u, v) && accepts(first, u) && accepts(second, v)
		})
		c, err = pair.Diagonal(n, first)
		mustRelate(t, "Diagonal "+brief(first), n, c, err, func(u, v []int) bool { return slices.Equal(u, v) && accepts(first, u) })
	}
}

// P8.2: 3 and 16 letters.
func TestManyLetters(t *testing.T) {
	r := rand.New(rand.NewSource(88))
	for range 100 {
		a, b := random(r, 3, 15, 4), random(r, 3, 15, 4)
		c, err := pair.Compose(3, a, b)
		mustRelate(t, "Compose", 3, c, err, func(u, w []int) bool { return hasMiddle(3, a, b, u, w) })
		c, err = pair.Restrict(3, a, all(3), ring(3, 2))
		mustRelate(t, "Restrict", 3, c, err, func(u, v []int) bool { return related(3, a, u, v) && len(v)%2 == 0 })
		c, err = pair.Combine(3, api.FsaXor, a, b)
		mustRelate(t, "Combine", 3, c, err, func(u, v []int) bool { return related(3, a, u, v) != related(3, b, u, v) })
	}
	d, err := pair.Diagonal(16, all(16))
	must(t, "Diagonal", 16, d, err)
	one := relation(t, 16, join([]int{15, 14}, []int{3}), join(nil, []int{15}))
	c, err := pair.Compose(16, one, d)
	mustBe(t, "Compose", c, err, one)
	c, err = pair.Converse(16, one)
	mustBe(t, "Converse", c, err, relation(t, 16, join([]int{3}, []int{15, 14}), join([]int{15}, nil)))
	p, err := pair.Project(16, 1, one)
	mustBe(t, "Project", p, err, language(t, 16, []int{3}, []int{15}))
	is, w, err := pair.Function(16, relation(t, 16, join([]int{15, 14}, []int{3}), join([]int{15, 14}, []int{13, 12})))
	if is || w != (api.PairWitness{U: "Hh", V: "B", W: "Gg"}) || err != api.OK {
		t.Errorf("Function: %v, %v, %d", is, w, err)
	}
}

// Errors of all functions that return automata, in their order.
func TestErrors(t *testing.T) {
	good, words := all(8), all(2)
	calls := func(n, op, tape int, a, b, first, second api.Automaton) map[string]func() (api.Automaton, api.Errno) {
		return map[string]func() (api.Automaton, api.Errno){
			"Normal":   func() (api.Automaton, api.Errno) { return pair.Normal(n, a) },
			"Converse": func() (api.Automaton, api.Errno) { return pair.Converse(n, a) },
			"Combine":  func() (api.Automaton, api.Errno) { return pair.Combine(n, op, a, b) },
			"Compose":  func() (api.Automaton, api.Errno) { return pair.Compose(n, a, b) },
			"Project":  func() (api.Automaton, api.Errno) { return pair.Project(n, tape, a) },
			"Restrict": func() (api.Automaton, api.Errno) { return pair.Restrict(n, a, first, second) },
			"Diagonal": func() (api.Automaton, api.Errno) { return pair.Diagonal(n, first) },
		}
	}
	for _, n := range outside(1, 16) {
		for name, call := range calls(n, 0, 2, api.Automaton{}, api.Automaton{}, api.Automaton{}, api.Automaton{}) {
			a, err := call()
			mustFail(t, name, a, err, api.ErrArg)
		}
		if is, w, err := pair.Function(n, good); err != api.ErrArg || is || w != (api.PairWitness{}) {
			t.Errorf("Function with %d letters: %v, %d", n, is, err)
		}
	}
	for _, op := range outside(api.FsaAnd, api.FsaXor) {
		a, err := pair.Combine(2, op, none(3), good)
		mustFail(t, "Combine", a, err, api.ErrArg)
	}
	for _, tape := range outside(0, 1) {
		a, err := pair.Project(2, tape, none(3))
		mustFail(t, "Project", a, err, api.ErrArg)
	}
	for kind, bad := range invalid() {
		for name, call := range calls(2, 1, 0, bad, good, good, good) {
			if name != "Diagonal" {
				a, err := call()
				mustFail(t, name+" of "+kind, a, err, api.ErrTwoTape)
			}
		}
		for name, call := range calls(2, 1, 0, good, bad, words, words) {
			if name == "Compose" || name == "Combine" {
				a, err := call()
				mustFail(t, name+" of the second "+kind, a, err, api.ErrTwoTape)
			}
		}
	}
	for kind, bad := range map[string]api.Automaton{"zero": {}, "3 symbols": all(3), "8 symbols": all(8), "short row": {Symbols: 2, Accept: []bool{true}, Next: [][]int{{0}}}, "too many states": blank(api.MaxStates+1, 2)} {
		a, err := pair.Restrict(2, good, bad, words)
		mustFail(t, "Restrict first "+kind, a, err, api.ErrFsa)
		a, err = pair.Restrict(2, good, words, bad)
		mustFail(t, "Restrict second "+kind, a, err, api.ErrFsa)
		a, err = pair.Restrict(2, bad, bad, words)
		want := api.ErrTwoTape
		if kind == "8 symbols" {
			want = api.ErrFsa
		}
		mustFail(t, "Restrict all "+kind, a, err, want)
		a, err = pair.Diagonal(2, bad)
		mustFail(t, "Diagonal "+kind, a, err, api.ErrFsa)
	}
}

// Arguments remain as they are, and results share no memory with them, or with other results (R2).
func TestPurity(t *testing.T) {
	r := rand.New(rand.NewSource(89))
	for range 200 {
		a, b, l := random(r, 4, 8, 3), random(r, 4, 8, 3), random(r, 3, 2, 3)
		was := []api.Automaton{copied(a), copied(b), copied(l)}
		calls := []func() (api.Automaton, api.Errno){
			func() (api.Automaton, api.Errno) { return pair.Normal(2, a) },
			func() (api.Automaton, api.Errno) { return pair.Converse(2, a) },
			func() (api.Automaton, api.Errno) { return pair.Combine(2, api.FsaOr, a, b) },
			func() (api.Automaton, api.Errno) { return pair.Compose(2, a, b) },
			func() (api.Automaton, api.Errno) { return pair.Project(2, 1, a) },
			func() (api.Automaton, api.Errno) { return pair.Restrict(2, a, l, l) },
			func() (api.Automaton, api.Errno) { return pair.Diagonal(2, l) },
		}
		for i, call := range calls {
			c, err := call()
			want := copied(c)
			for s, row := range c.Next {
				c.Accept[s] = !c.Accept[s]
				_ = append(row, 7)
				for x := range row {
					row[x] = 7
				}
			}
			again, errAgain := call()
			if err != errAgain || !fsa.Same(again, want) {
				t.Fatalf("call %d: %v, then %v", i, want, again)
			}
		}
		for i, x := range []api.Automaton{a, b, l} {
			if !fsa.Same(x, was[i]) {
				t.Fatalf("argument %d was %v, is %v", i, was[i], x)
			}
		}
	}
}
