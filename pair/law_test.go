package pair_test

import (
	"math/rand"
	"testing"

	"cayley/api"
	"cayley/fsa"
	"cayley/pair"
)

// P8.3: the laws of composition, converse and projection, as long as no construction has ErrLimit.
func TestLaws(t *testing.T) {
	r := rand.New(rand.NewSource(90))
	beyond := 0
	for range 600 {
		n := 1 + r.Intn(2)
		isBeyond := false
		got := func(a api.Automaton, err api.Errno) api.Automaton {
			if isBeyond = isBeyond || err == api.ErrLimit; err != api.OK && !isBeyond { // what follows has no arguments
				t.Fatal(err)
			}
			return a
		}
		var l []api.Automaton
		for range 3 {
			l = append(l, random(r, 3, symbols(n), 1+r.Intn(5)))
		}
		compose := func(a, b api.Automaton) api.Automaton {
			return got(pair.Compose(n, a, b))
		}
		converse := func(a api.Automaton) api.Automaton {
			return got(pair.Converse(n, a))
		}
		project := func(tape int, a api.Automaton) api.Automaton {
			return got(pair.Project(n, tape, a))
		}
		combine := func(op int, a, b api.Automaton) api.Automaton {
			return got(pair.Combine(n, op, a, b))
		}
		diagonal := func(a api.Automaton) api.Automaton {
			return got(pair.Diagonal(n, a))
		}
		restrict := func(a, first, second api.Automaton) api.Automaton {
			return got(pair.Restrict(n, a, first, second))
		}
		normal := func(a api.Automaton) api.Automaton {
			return got(pair.Normal(n, a))
		}
		a, b, c := l[0], l[1], l[2]
		id := diagonal(all(n))
		p, q := project(0, a), project(1, a)
		laws := map[string][2]api.Automaton{
			"associative":               {compose(compose(a, b), c), compose(a, compose(b, c))},
			"neutral ahead":             {compose(id, a), normal(a)},
			"neutral behind":            {compose(a, id), normal(a)},
			"converse of a composition": {converse(compose(a, b)), compose(converse(b), converse(a))},
			"converse twice":            {converse(converse(a)), normal(a)},
			"projection of a converse":  {project(0, converse(a)), q},
			"projection of a converse ": {project(1, converse(a)), p},
			"distributive":              {compose(a, combine(api.FsaOr, b, c)), combine(api.FsaOr, compose(a, b), compose(a, c))},
			"converse of an union":      {converse(combine(api.FsaOr, a, b)), combine(api.FsaOr, converse(a), converse(b))},
			"restricted to its own":     {restrict(a, p, q), normal(a)},
			"restricted by diagonals":   {restrict(a, project(0, b), project(1, c)), compose(compose(diagonal(project(0, b)), a), diagonal(project(1, c)))},
			"no difference":             {combine(api.FsaXor, a, normal(a)), none(symbols(n))},
			"a difference twice":        {combine(api.FsaXor, combine(api.FsaXor, a, b), b), normal(a)},
			"both":                      {combine(api.FsaAnd, a, b), combine(api.FsaMinus, a, combine(api.FsaMinus, a, b))},
			"diagonal and projection":   {project(0, diagonal(p)), p},
		}
		if isBeyond {
			beyond++
			continue
		}
		for name, x := range laws {
			if !fsa.Same(x[0], x[1]) {
				t.Fatalf("%s: %v, %v for %v", name, x[0], x[1], l)
			}
		}
	}
	if beyond > 30 {
		t.Error("beyond the limit:", beyond)
	}
}
