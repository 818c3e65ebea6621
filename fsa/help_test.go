package fsa_test

import (
	"fmt"
	"iter"
	"math/rand"
	"slices"
	"testing"

	"cayley/api"
	"cayley/fsa"
)

// auto returns an automaton that starts at 0 with these rows; accept has a 1 for each accepting state, and a 0 for each other one.
func auto(symbols int, accept string, rows ...[]int) api.Automaton {
	a := api.Automaton{Symbols: symbols, Next: rows}
	for _, c := range accept {
		a.Accept = append(a.Accept, c == '1')
	}
	return a
}

// even is E of the chapter, odd its complement, all accepts every word of two symbols.
func even() api.Automaton { return auto(2, "10", []int{1, 0}, []int{0, 1}) }
func odd() api.Automaton  { return auto(2, "01", []int{1, 0}, []int{0, 1}) }
func all() api.Automaton  { return auto(2, "1", []int{0, 0}) }

// ring returns the automaton of one symbol whose n states form a circle, with some accepting ones.
func ring(n int, accept ...int) api.Automaton {
	a := api.Automaton{Symbols: 1, Accept: make([]bool, n)}
	for s := range n {
		a.Next = append(a.Next, []int{(s + 1) % n})
	}
	for _, s := range accept {
		a.Accept[s] = true
	}
	return a
}

// chain returns the canonical automaton of one symbol that accepts the words of these lengths, of which the last is the greatest.
func chain(lengths ...int) api.Automaton {
	n := lengths[len(lengths)-1] + 1
	a := ring(n, lengths...)
	a.Next[n-1][0] = -1
	return a
}

// beside returns an automaton with the states of another one behind its own; they are reached by none.
func beside(a, b api.Automaton) api.Automaton {
	base := len(a.Next)
	a = copied(a)
	for s, row := range copied(b).Next {
		for x := range row {
			if row[x] >= 0 {
				row[x] += base
			}
		}
		a.Next = append(a.Next, row)
		a.Accept = append(a.Accept, b.Accept[s])
	}
	return a
}

// column returns an automaton with one more symbol, which leads where to says.
func column(a api.Automaton, to func(s int) int) api.Automaton {
	a = copied(a)
	a.Symbols++
	for s := range a.Next {
		a.Next[s] = append(a.Next[s], to(s))
	}
	return a
}

func stay(s int) int  { return s }
func nowhere(int) int { return -1 }

func copied(a api.Automaton) api.Automaton {
	a.Accept = slices.Clone(a.Accept)
	a.Next = slices.Clone(a.Next)
	for s := range a.Next {
		a.Next[s] = slices.Clone(a.Next[s])
	}
	return a
}

// random returns an automaton with up to n states.
func random(r *rand.Rand, n, symbols int) api.Automaton {
	n = r.Intn(n + 1)
	a := api.Automaton{Symbols: symbols}
	for range n {
		row := make([]int, symbols)
		for x := range row {
			row[x] = r.Intn(n+1) - 1
		}
		a.Next = append(a.Next, row)
		a.Accept = append(a.Accept, r.Intn(3) == 0)
	}
	if n > 0 {
		a.Start = r.Intn(n)
	}
	return a
}

// accepts reports whether a word is accepted, by the definition.
func accepts(a api.Automaton, w []int) bool {
	if len(a.Next) == 0 {
		return false
	}
	s := a.Start
	for _, x := range w {
		if s = a.Next[s][x]; s < 0 {
			return false
		}
	}
	return a.Accept[s]
}

// words yields all words of at most so many symbols, in their order.
func words(symbols, most int) iter.Seq[[]int] {
	return func(yield func([]int) bool) {
		layer := [][]int{{}}
		for range most + 1 {
			var next [][]int
			for _, w := range layer {
				if !yield(w) {
					return
				}
				for x := range symbols {
					next = append(next, append(slices.Clone(w), x))
				}
			}
			layer = next
		}
	}
}

// mustAccept tests, for all words of at most so many symbols, whether they are accepted.
func mustAccept(t *testing.T, name string, a api.Automaton, most int, is func(w []int) bool) {
	t.Helper()
	for w := range words(a.Symbols, most) {
		if accepts(a, w) != is(w) || fsa.Accepts(a, w) != is(w) {
			t.Fatalf("%s: %v accepts %v: %v", name, a, w, !is(w))
		}
	}
}

// must returns the result of a construction, once it is tested that it is canonical by the definition.
func must(t *testing.T, name string, a api.Automaton, err api.Errno) api.Automaton {
	t.Helper()
	if err != api.OK {
		t.Fatalf("%s: %d", name, err)
	}
	if f := fault(a); f != "" {
		t.Fatalf("%s: %s: %s", name, brief(a), f)
	}
	return a
}

// mustBe tests the result of a construction.
func mustBe(t *testing.T, name string, a api.Automaton, err api.Errno, want api.Automaton) {
	t.Helper()
	if got := must(t, name, a, err); !fsa.Same(got, want) {
		t.Errorf("%s: %s, not %s", name, brief(got), brief(want))
	}
}

// brief writes the beginning of a value.
func brief(v any) string {
	return fmt.Sprintf("%.300s", fmt.Sprint(v))
}

// mustFail tests that a construction has an error, and nothing else.
func mustFail(t *testing.T, name string, a api.Automaton, err, want api.Errno) {
	t.Helper()
	if err != want || a.Symbols != 0 || a.Start != 0 || a.Accept != nil || a.Next != nil {
		t.Errorf("%s: %d states, error %d, not %d", name, len(a.Next), err, want)
	}
}

// fault says why an automaton is not canonical, by the definition.
func fault(a api.Automaton) string {
	if fsa.Check(a) != api.OK {
		return "not valid"
	}
	if a.Start != 0 {
		return "the start"
	}
	reached := 0
	for s, row := range a.Next {
		if s > 0 && s > reached {
			return "a state that is not reached in its turn"
		}
		for _, to := range row {
			if to > reached+1 {
				return "the numbers of states"
			}
			reached = max(reached, to)
		}
	}
	if slices.Contains(live(a), false) {
		return "a state that leads to no acceptance"
	}
	if len(a.Next) <= 40 && hasTwins(a) {
		return "states that accept the same"
	}
	return ""
}

// live returns from which states some word leads to acceptance.
func live(a api.Automaton) []bool {
	out := slices.Clone(a.Accept)
	for goesOn := true; goesOn; {
		goesOn = false
		for s, row := range slices.Backward(a.Next) {
			leads := slices.ContainsFunc(row, func(to int) bool { return to >= 0 && out[to] })
			goesOn = goesOn || leads && !out[s]
			out[s] = out[s] || leads
		}
	}
	return out
}

// hasTwins reports whether two states accept the same words: whether no pair of them leads, by one word, to one that accepts and one that does not. All states lead to acceptance.
func hasTwins(a api.Automaton) bool {
	n := len(a.Next)
	parted := make([]bool, n*n)
	for i := range parted {
		parted[i] = a.Accept[i/n] != a.Accept[i%n]
	}
	for goesOn := true; goesOn; {
		goesOn = false
		for i := range parted {
			for x := range a.Symbols {
				p, q := a.Next[i/n][x], a.Next[i%n][x]
				if !parted[i] && ((p < 0) != (q < 0) || p >= 0 && parted[p*n+q]) {
					parted[i], goesOn = true, true
				}
			}
		}
	}
	for i, is := range parted {
		if i/n != i%n && !is {
			return true
		}
	}
	return false
}
