package pair_test

import (
	"fmt"
	"iter"
	"math/rand"
	"slices"
	"testing"

	"cayley/api"
	"cayley/fsa"
	"cayley/pair"
)

// symbol returns the symbol of two letters or paddings.
func symbol(n, x, y int) int { return x*(n+1) + y }

// symbols returns the number of pair symbols.
func symbols(n int) int { return (n+1)*(n+1) - 1 }

// at returns a letter of a word, or the padding.
func at(n int, w []int, i int) int {
	if i < len(w) {
		return w[i]
	}
	return n
}

// auto returns an automaton that starts at 0 with these rows; accept has a 1 for each accepting state, and a 0 for each other one.
func auto(symbols int, accept string, rows ...[]int) api.Automaton {
	a := api.Automaton{Symbols: symbols, Next: rows}
	for _, c := range accept {
		a.Accept = append(a.Accept, c == '1')
	}
	return a
}

// blank returns an automaton of so many states, none of which accepts, or leads anywhere.
func blank(states, symbols int) api.Automaton {
	a := api.Automaton{Symbols: symbols, Accept: make([]bool, states)}
	for range states {
		a.Next = append(a.Next, slices.Repeat([]int{-1}, symbols))
	}
	return a
}

// none is the automaton without states, and all that of all words.
func none(symbols int) api.Automaton { return api.Automaton{Symbols: symbols} }
func all(symbols int) api.Automaton  { return auto(symbols, "1", make([]int, symbols)) }

// ring returns the automaton of the words whose length is a multiple of m.
func ring(symbols, m int) api.Automaton {
	a := blank(m, symbols)
	for s, row := range a.Next {
		for x := range row {
			row[x] = (s + 1) % m
		}
	}
	a.Accept[0] = true
	return a
}

// ringLast returns the automaton of the words whose length is a multiple of m, and which end with a letter.
func ringLast(symbols, m, last int) api.Automaton {
	a := blank(2*m, symbols)
	for s, row := range a.Next {
		for x := range row {
			row[x] = (s/2 + 1) % m * 2
			if x == last {
				row[x]++
			}
		}
	}
	a.Accept[1] = true
	return a
}

// chain returns the automaton of the words of n symbols.
func chain(symbols, n int) api.Automaton {
	a := blank(n+1, symbols)
	for s := range n {
		for x := range symbols {
			a.Next[s][x] = s + 1
		}
	}
	a.Accept[n] = true
	return a
}

func copied(a api.Automaton) api.Automaton {
	a.Accept = slices.Clone(a.Accept)
	a.Next = slices.Clone(a.Next)
	for s := range a.Next {
		a.Next[s] = slices.Clone(a.Next[s])
	}
	return a
}

// random returns an automaton with up to n states; about one of so many entries leads nowhere.
func random(r *rand.Rand, n, symbols, gaps int) api.Automaton {
	n = r.Intn(n + 1)
	a := blank(n, symbols)
	for s, row := range a.Next {
		for x := range row {
			if r.Intn(gaps) > 0 {
				row[x] = r.Intn(n)
			}
		}
		a.Accept[s] = r.Intn(3) == 0
	}
	if n > 0 {
		a.Start = r.Intn(n)
	}
	return a
}

// every yields all automata of so many states and symbols.
func every(states, symbols int) iter.Seq[api.Automaton] {
	return func(yield func(api.Automaton) bool) {
		ways := 1
		for range states * symbols {
			ways *= states + 1
		}
		for i := range states * ways << states {
			a := api.Automaton{Symbols: symbols, Start: i % states}
			i /= states
			for range states {
				a.Accept = append(a.Accept, i%2 == 1)
				i /= 2
			}
			for range states {
				row := make([]int, symbols)
				for x := range row {
					row[x] = i%(states+1) - 1
					i /= states + 1
				}
				a.Next = append(a.Next, row)
			}
			if !yield(a) {
				return
			}
		}
	}
}

// samples yields pair automata, with their numbers of letters: all of one letter with up to two states, and random ones.
func samples(seed int64, number int) iter.Seq2[int, api.Automaton] {
	return func(yield func(int, api.Automaton) bool) {
		for states := range 3 {
			if states == 0 && !yield(1, none(3)) {
				return
			}
			for a := range every(max(states, 1), 3) {
				if states > 0 && !yield(1, a) {
					return
				}
			}
		}
		r := rand.New(rand.NewSource(seed))
		for range number {
			n := 1 + r.Intn(2)
			if !yield(n, random(r, 4, symbols(n), 1+r.Intn(4))) {
				return
			}
		}
	}
}

// depth is how long words are that are tried, for so many letters.
func depth(n int) int {
	return []int{0, 5, 3, 2}[n]
}

// accepts reports whether a word is accepted, by the definition.
func accepts(a api.Automaton, w []int) bool {
	if len(a.Next) == 0 {
		return false
	}
	s := a.Start
	for _, x := range w {
		if s = a.Next[s][x]; s < 0 {
			return false
		}
	}
	return a.Accept[s]
}

// related reports whether a pair belongs to a relation, by the definition.
func related(n int, a api.Automaton, u, v []int) bool {
	var code []int
	for i := range max(len(u), len(v)) {
		code = append(code, symbol(n, at(n, u, i), at(n, v, i)))
	}
	return accepts(a, code)
}

// words yields all words of at most so many symbols, in their order.
func words(symbols, longest int) iter.Seq[[]int] {
	return func(yield func([]int) bool) {
		layer := [][]int{{}}
		for range longest + 1 {
			var next [][]int
			for _, w := range layer {
				if !yield(w) {
					return
				}
				for x := range symbols {
					next = append(next, append(slices.Clone(w), x))
				}
			}
			layer = next
		}
	}
}

// images returns the first words that are related to a word, in their order: at most so many, of at most so many letters.
func images(n int, a api.Automaton, u []int, most, longest int) [][]int {
	var out [][]int
	for v := range words(n, longest) {
		if len(out) < most && related(n, a, u, v) {
			out = append(out, v)
		}
	}
	return out
}

// place is where two automata are behind prefixes, one of which is of a word in the middle that may have ended.
type place struct {
	i, p, q int
	ended   bool
}

// hasMiddle reports whether there is a word v, of any length, with (u, v) in one relation, and (v, w) in another one: by a search.
func hasMiddle(n int, a, b api.Automaton, u, w []int) bool {
	if len(a.Next) == 0 || len(b.Next) == 0 {
		return false
	}
	end := max(len(u), len(w))
	found := []place{{0, a.Start, b.Start, false}}
	for k := 0; k < len(found); k++ {
		f := found[k]
		if f.i == end && a.Accept[f.p] && b.Accept[f.q] {
			return true
		}
		x, z := at(n, u, f.i), at(n, w, f.i)
		for y := range n + 1 {
			if y < n && f.ended || y == n && x == n && z == n {
				continue
			}
			next := place{min(f.i+1, end), goOn(n, a, f.p, x, y), goOn(n, b, f.q, y, z), y == n}
			if next.p >= 0 && next.q >= 0 && !slices.Contains(found, next) {
				found = append(found, next)
			}
		}
	}
	return false
}

// goOn returns where a symbol leads; two paddings lead back.
func goOn(n int, a api.Automaton, s, x, y int) int {
	if x == n && y == n {
		return s
	}
	return a.Next[s][symbol(n, x, y)]
}

// swapped returns the automaton with the letters of each symbol exchanged.
func swapped(n int, a api.Automaton) api.Automaton {
	a = copied(a)
	for s, row := range a.Next {
		a.Next[s] = make([]int, len(row))
		for x, to := range row {
			a.Next[s][symbol(n, x%(n+1), x/(n+1))] = to
		}
	}
	return a
}

// relation is the pair automaton of some pairs.
func relation(t *testing.T, n int, l ...[2][]int) api.Automaton {
	t.Helper()
	var codes [][]int
	for _, p := range l {
		c, err := pair.Code(n, p[0], p[1])
		if err != api.OK {
			t.Fatalf("Code of %v: %d", p, err)
		}
		codes = append(codes, c)
	}
	a, err := fsa.Words(symbols(n), codes)
	if err != api.OK {
		t.Fatalf("Words: %d", err)
	}
	return a
}

// language is the automaton of some words.
func language(t *testing.T, n int, l ...[]int) api.Automaton {
	t.Helper()
	a, err := fsa.Words(n, l)
	if err != api.OK {
		t.Fatalf("Words: %d", err)
	}
	return a
}

// join joins two words, or letters, to a pair.
func join(u, v []int) [2][]int { return [2][]int{u, v} }

// brief writes the beginning of a value.
func brief(v any) string {
	return fmt.Sprintf("%.300s", fmt.Sprint(v))
}

// acceptsCodes reports whether a canonical automaton accepts codes only: each way in it is part of a way to acceptance, so none may have a letter behind a padding.
func acceptsCodes(n int, a api.Automaton) bool {
	type position struct {
		state      int
		uEnd, vEnd bool
	}
	if len(a.Next) == 0 {
		return true
	}
	found := []position{{}}
	met := map[position]bool{{}: true}
	for i := 0; i < len(found); i++ {
		for s, to := range a.Next[found[i].state] {
			next := position{to, s/(n+1) == n, s%(n+1) == n}
			if to >= 0 && (found[i].uEnd && !next.uEnd || found[i].vEnd && !next.vEnd) {
				return false
			}
			if to >= 0 && !met[next] {
				met[next] = true
				found = append(found, next)
			}
		}
	}
	return true
}

// must returns the result of a construction, once it is tested that it is normal.
func must(t *testing.T, name string, n int, a api.Automaton, err api.Errno) api.Automaton {
	t.Helper()
	if err != api.OK {
		t.Fatalf("%s: %d", name, err)
	}
	if !fsa.IsCanon(a) || a.Symbols != symbols(n) || !acceptsCodes(n, a) {
		t.Fatalf("%s: not normal: %s", name, brief(a))
	}
	return a
}

// mustBe tests the result of a construction: a pair automaton, or a language.
func mustBe(t *testing.T, name string, a api.Automaton, err api.Errno, want api.Automaton) {
	t.Helper()
	if err != api.OK || !fsa.Same(a, want) {
		t.Fatalf("%s: %s, %d, not %s", name, brief(a), err, brief(want))
	}
}

// mustFail tests that a construction has an error, and nothing else.
func mustFail(t *testing.T, name string, a api.Automaton, err, want api.Errno) {
	t.Helper()
	if err != want || a.Symbols != 0 || a.Start != 0 || a.Accept != nil || a.Next != nil {
		t.Errorf("%s: %d states, error %d, not %d", name, len(a.Next), err, want)
	}
}

// mustRelate tests for all pairs of short words whether they belong to the relation that a construction returned.
func mustRelate(t *testing.T, name string, n int, a api.Automaton, err api.Errno, is func(u, v []int) bool) {
	t.Helper()
	must(t, name, n, a, err)
	for u := range words(n, depth(n)) {
		for v := range words(n, depth(n)) {
			if related(n, a, u, v) != is(u, v) {
				t.Fatalf("%s: %s relates %v and %v: %v", name, brief(a), u, v, !is(u, v))
			}
		}
	}
}

// invalid returns automata that are no pair automata over 2 letters.
func invalid() map[string]api.Automaton {
	return map[string]api.Automaton{
		"zero":                {},
		"symbols of 1 letter": all(3),
		"symbols of 3":        all(15),
		"9 symbols":           all(9),
		"short row":           {Symbols: 8, Accept: []bool{true}, Next: [][]int{make([]int, 7)}},
		"entry too great":     {Symbols: 8, Accept: []bool{true}, Next: [][]int{{0, 0, 0, 0, 0, 0, 0, 1}}},
		"entry below -1":      {Symbols: 8, Accept: []bool{true}, Next: [][]int{{0, 0, 0, 0, 0, 0, 0, -2}}},
		"start behind states": {Symbols: 8, Start: 1, Accept: []bool{true}, Next: [][]int{make([]int, 8)}},
		"start of no states":  {Symbols: 8, Start: 1},
		"accept alone":        {Symbols: 8, Accept: []bool{true}},
		"too many states":     blank(api.MaxStates+1, 8),
	}
}

// outside returns numbers outside of a range.
func outside(from, to int) []int {
	return []int{from - 1, to + 1, -1 << 63, 1<<63 - 1, 1 << 32, -1 << 32}
}
