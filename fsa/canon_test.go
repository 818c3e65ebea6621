package fsa_test

import (
	"fmt"
	"math/rand"
	"slices"
	"testing"

	"cayley/api"
	"cayley/fsa"
)

// largest returns a valid automaton with as many states and symbols as there may be: a circle, in which each symbol leads on.
func largest() api.Automaton {
	a := ring(api.MaxStates, 7)
	a.Symbols = api.MaxSymbol
	for s, row := range a.Next {
		a.Next[s] = slices.Repeat(row, api.MaxSymbol)
	}
	return a
}

// invalid returns automata each of which breaks one condition.
func invalid() map[string]api.Automaton {
	return map[string]api.Automaton{
		"zero":                {},
		"negative symbols":    {Symbols: -1},
		"too many symbols":    {Symbols: api.MaxSymbol + 1},
		"start of no states":  {Symbols: 1, Start: 1},
		"start below 0":       {Symbols: 1, Start: -1, Accept: []bool{true}, Next: [][]int{{0}}},
		"start behind states": {Symbols: 1, Start: 1, Accept: []bool{true}, Next: [][]int{{0}}},
		"more rows":           {Symbols: 1, Accept: []bool{true}, Next: [][]int{{0}, {0}}},
		"fewer rows":          {Symbols: 1, Accept: []bool{true, true}, Next: [][]int{{0}}},
		"accept alone":        {Symbols: 1, Accept: []bool{true}},
		"short row":           {Symbols: 2, Accept: []bool{true}, Next: [][]int{{0}}},
		"long row":            {Symbols: 2, Accept: []bool{true}, Next: [][]int{{0, 0, 0}}},
		"empty row":           {Symbols: 1, Accept: []bool{true, true}, Next: [][]int{{0}, nil}},
		"entry below -1":      {Symbols: 2, Accept: []bool{true}, Next: [][]int{{0, -2}}},
		"entry too great":     {Symbols: 2, Accept: []bool{true}, Next: [][]int{{0, 1}}},
		"too many states":     ring(api.MaxStates + 1),
	}
}

// P6.1: valid automata.
func TestCheck(t *testing.T) {
	for name, a := range invalid() {
		if err := fsa.Check(a); err != api.ErrFsa {
			t.Errorf("Check of %s: %d", name, err)
		}
	}
	for name, a := range map[string]api.Automaton{
		"E": even(), "no states": {Symbols: api.MaxSymbol}, "empty lists": {Symbols: 1, Accept: []bool{}, Next: [][]int{}}, "a later start": {Symbols: 1, Start: 1, Accept: []bool{true, false}, Next: [][]int{{-1}, {0}}}, "the largest": largest(),
	} {
		if err := fsa.Check(a); err != api.OK {
			t.Errorf("Check of %s: %d", name, err)
		}
	}
}

// P6.1: where words lead, and which are accepted.
func TestLead(t *testing.T) {
	a := auto(2, "001", []int{1, -1}, []int{2, 0}, []int{-1, 2})
	a.Start = 1
	for _, x := range []struct {
		from int
		w    []int
		to   int
		is   bool
	}{
		{0, nil, 0, true}, {2, []int{}, 2, true}, {0, []int{0, 0, 1, 1}, 2, true}, {0, []int{0, 1, 0}, 1, true}, {0, []int{1}, 0, false}, {0, []int{0, 0, 0, 0}, 0, false}, {1, []int{2}, 0, false}, {1, []int{0, -1}, 0, false},
		{3, nil, 0, false}, {-1, nil, 0, false}, {1 << 62, nil, 0, false}, {-1 << 63, []int{0}, 0, false}, {1, []int{1 << 62}, 0, false}, {0, []int{1, 2}, 0, false},
	} {
		if to, is := fsa.Lead(a, x.from, x.w); to != x.to || is != x.is {
			t.Errorf("Lead from %d by %v: %d, %v", x.from, x.w, to, is)
		}
	}
	for name, a := range invalid() {
		if to, is := fsa.Lead(a, 0, nil); to != 0 || is {
			t.Errorf("Lead in %s: %d, %v", name, to, is)
		}
		if fsa.Accepts(a, nil) {
			t.Errorf("Accepts of %s", name)
		}
	}
	for _, x := range []struct {
		a  api.Automaton
		w  []int
		is bool
	}{
		{even(), []int{0, 1, 0}, true}, {even(), []int{0}, false}, {even(), nil, true}, {even(), []int{2}, false}, {even(), []int{0, 0, -1}, false}, {a, []int{0}, true}, {a, nil, false}, {a, []int{0, 0}, false}, {a, []int{1, 0, 0, 1}, true},
		{api.Automaton{Symbols: 2}, nil, false}, {api.Automaton{Symbols: 2}, []int{0}, false},
	} {
		if fsa.Accepts(x.a, x.w) != x.is {
			t.Errorf("Accepts of %v: %v", x.w, !x.is)
		}
	}
	if _, is := fsa.Lead(api.Automaton{Symbols: 2}, 0, nil); is {
		t.Error("Lead without states")
	}
}

// P6.1: the chapter's example, and others.
func TestCanon(t *testing.T) {
	none := api.Automaton{Symbols: 2}
	late := even()
	late.Start = 1
	turned := api.Automaton{Symbols: 2, Start: 2, Accept: []bool{true, true, false}, Next: [][]int{{-1, -1}, {0, 1}, {1, 0}}}
	for name, x := range map[string]struct{ a, want api.Automaton }{
		"E":                          {even(), even()},
		"a state that leads nowhere": {auto(2, "100", []int{1, 0}, []int{0, 1}, []int{-1, -1}), even()},
		"a state that is used":       {auto(2, "100", []int{1, 2}, []int{0, 1}, []int{2, -1}), auto(2, "10", []int{1, -1}, []int{0, 1})},
		"an accepting twin":          {auto(2, "101", []int{1, 2}, []int{2, 1}, []int{1, 0}), even()},
		"not reached":                {beside(even(), all()), even()},
		"another start":              {late, odd()},
		"another order":              {turned, auto(2, "011", []int{1, 2}, []int{2, 1}, []int{-1, -1})},
		"nothing accepts":            {auto(2, "00", []int{1, 0}, []int{0, 1}), none},
		"nothing that is reached":    {beside(auto(2, "0", []int{0, 0}), all()), none},
		"no states":                  {none, none},
		"all accept":                 {auto(2, "11", []int{1, 0}, []int{0, 1}), all()},
		"the empty word":             {auto(2, "10", []int{1, -1}, []int{1, 1}), auto(2, "1", []int{-1, -1})},
	} {
		a, err := fsa.Canon(x.a)
		mustBe(t, name, a, err, x.want)
		if fsa.IsCanon(x.a) != fsa.Same(x.a, x.want) {
			t.Errorf("IsCanon of %s", name)
		}
	}
	for name, a := range invalid() {
		got, err := fsa.Canon(a)
		mustFail(t, name, got, err, api.ErrFsa)
		if fsa.IsCanon(a) {
			t.Errorf("IsCanon of %s", name)
		}
	}
}

// P6.1: equality in all fields.
func TestSame(t *testing.T) {
	a := even()
	if !fsa.Same(a, copied(a)) || !fsa.Same(api.Automaton{}, api.Automaton{Accept: []bool{}, Next: [][]int{}}) || !fsa.Same(api.Automaton{Next: [][]int{nil}}, api.Automaton{Next: [][]int{{}}}) {
		t.Error("Same of equal automata")
	}
	for i, change := range []func(b *api.Automaton){
		func(b *api.Automaton) { b.Symbols = 3 }, func(b *api.Automaton) { b.Start = 1 }, func(b *api.Automaton) { b.Accept[1] = true }, func(b *api.Automaton) { b.Accept = b.Accept[:1] },
		func(b *api.Automaton) { b.Next[1][0] = 1 }, func(b *api.Automaton) { b.Next[1] = b.Next[1][:1] }, func(b *api.Automaton) { b.Next = append(b.Next, nil) }, func(b *api.Automaton) { b.Next = nil },
	} {
		b := copied(a)
		change(&b)
		if fsa.Same(a, b) || fsa.Same(b, a) {
			t.Error("Same of automata that differ", i)
		}
		if !fsa.Same(b, copied(b)) {
			t.Error("Same of an automaton with itself", i)
		}
	}
}

// small yields all automata of two symbols with so many states.
func small(n int, yield func(api.Automaton)) {
	if n == 0 {
		yield(api.Automaton{Symbols: 2})
		return
	}
	entries := 1
	for range 2 * n {
		entries *= n + 1
	}
	for code := range entries << n * n {
		a := api.Automaton{Symbols: 2, Start: code % n}
		code /= n
		for range n {
			a.Accept = append(a.Accept, code%2 == 1)
			code /= 2
		}
		for range n {
			row := []int{code%(n+1) - 1, code/(n+1)%(n+1) - 1}
			code /= (n + 1) * (n + 1)
			a.Next = append(a.Next, row)
		}
		yield(a)
	}
}

// language describes the words of two symbols that an automaton of at most two states accepts: two such automata, with a state of leading nowhere each, differ in a word of at most five symbols if they do at all.
func language(a api.Automaton, most int) string {
	var out []byte
	for w := range words(2, most) {
		if accepts(a, w) {
			out = append(out, '1')
		} else {
			out = append(out, '0')
		}
	}
	return string(out)
}

// P6.4: canonical automata and languages determine each other, for all automata of two symbols with at most two states.
func TestCanonAll(t *testing.T) {
	canons, languages := map[string]string{}, map[string]string{}
	for n := range 3 {
		small(n, func(a api.Automaton) {
			c, err := fsa.Canon(a)
			must(t, "Canon", c, err)
			text, own := fmt.Sprint(c), language(a, 5)
			if other, ok := canons[own]; ok && other != text {
				t.Fatalf("%v and %s for one language", c, other)
			}
			if other, ok := languages[text]; ok && other != own {
				t.Fatalf("%v for two languages", c)
			}
			canons[own], languages[text] = text, own
			if fsa.IsCanon(a) != (fault(a) == "") {
				t.Fatalf("IsCanon of %v", a)
			}
		})
	}
	least := map[string]int{} // states of the least automaton of a language
	for n := range 3 {
		small(n, func(a api.Automaton) {
			if own := language(a, 6); least[own] == 0 {
				least[own] = n + 1
			}
		})
	}
	r := rand.New(rand.NewSource(61))
	for range 3000 {
		a := random(r, 3, 2)
		c, err := fsa.Canon(a)
		must(t, "Canon", c, err)
		if n := least[language(a, 6)]; n > 0 && n-1 < len(c.Next) {
			t.Fatalf("Canon of %v: %v, but %d states are enough", a, c, n-1)
		}
	}
}

// P6.4: Canon accepts the same words, is canonical, and is its own Canon; it does not matter how states are numbered, doubled or added.
func TestCanonRandom(t *testing.T) {
	r := rand.New(rand.NewSource(62))
	for range 3000 {
		a := random(r, 9, 1+r.Intn(3))
		c, err := fsa.Canon(a)
		must(t, "Canon", c, err)
		mustAccept(t, "Canon", c, 5, func(w []int) bool { return accepts(a, w) })
		if len(c.Next) > len(a.Next) || !fsa.IsCanon(c) {
			t.Fatalf("Canon of %v: %v", a, c)
		}
		again, err := fsa.Canon(c)
		mustBe(t, "Canon of Canon", again, err, c)
		other, err := fsa.Canon(disguised(r, a))
		mustBe(t, "Canon in disguise", other, err, c)
	}
}

// disguised returns an automaton of the same language: each state has two copies, and all are in another order.
func disguised(r *rand.Rand, a api.Automaton) api.Automaton {
	n := len(a.Next)
	number := r.Perm(2 * n)
	out := api.Automaton{Symbols: a.Symbols, Accept: make([]bool, 2*n), Next: make([][]int, 2*n)}
	copyOf := func(s int) int { return number[s+n*r.Intn(2)] }
	for s, row := range a.Next {
		for _, i := range []int{s, s + n} {
			out.Accept[number[i]] = a.Accept[s]
			for _, to := range row {
				if to >= 0 {
					to = copyOf(to)
				}
				out.Next[number[i]] = append(out.Next[number[i]], to)
			}
		}
	}
	if n > 0 {
		out.Start = copyOf(a.Start)
	}
	return out
}

// P6.1, P6.4: automata of the greatest sizes.
func TestCanonLarge(t *testing.T) {
	a := largest()
	c, err := fsa.Canon(a)
	mustBe(t, "a circle of all symbols", c, err, a)
	c, err = fsa.Canon(chain(api.MaxStates - 1))
	mustBe(t, "a chain", c, err, chain(api.MaxStates-1))
	r := rand.New(rand.NewSource(63))
	for _, n := range []int{1, 2, 125, 4000, 10000} {
		var accept []int
		for s := 0; s < 20000; s += n {
			accept = append(accept, s)
		}
		c, err = fsa.Canon(ring(20000, accept...))
		mustBe(t, "a periodic circle", c, err, ring(n, 0))
		c, err = fsa.Canon(disguised(r, ring(n, 0)))
		mustBe(t, "a circle in disguise", c, err, ring(n, 0))
	}
}

// The general rules: arguments remain as they were, and results share no memory with them, nor parts of one result with each other.
func TestPurity(t *testing.T) {
	for name, call := range map[string]func(a api.Automaton) (api.Automaton, api.Errno){
		"Canon":      fsa.Canon,
		"Combine":    func(a api.Automaton) (api.Automaton, api.Errno) { return fsa.Combine(a, a, api.FsaOr) },
		"Complement": fsa.Complement,
		"Concat":     func(a api.Automaton) (api.Automaton, api.Errno) { return fsa.Concat(a, a) },
		"Star":       fsa.Star,
		"Reverse":    fsa.Reverse,
	} {
		a := even()
		first, err := call(a)
		must(t, name, first, err)
		want := copied(first)
		for s := range first.Next {
			row := first.Next[s]
			first.Accept[s] = !first.Accept[s]
			for x := range row {
				row[x] = -7
			}
			first.Next[s] = append(row, -7)
		}
		for s, row := range first.Next {
			if !slices.Equal(row, slices.Repeat([]int{-7}, 3)) {
				t.Errorf("%s: the row %d shares memory", name, s)
			}
		}
		second, err := call(a)
		mustBe(t, name+" again", second, err, want)
		if !fsa.Same(a, even()) {
			t.Errorf("%s changes its argument", name)
		}
	}
}
