package lang_test

import (
	"fmt"
	"iter"
	"math/rand"
	"slices"

	"cayley/api"
)

const most = api.MaxCount

// auto returns an automaton that starts at 0 with these rows; accept has a 1 for each accepting state, and a 0 for each other one.
func auto(symbols int, accept string, rows ...[]int) api.Automaton {
	a := api.Automaton{Symbols: symbols, Next: rows}
	for _, c := range accept {
		a.Accept = append(a.Accept, c == '1')
	}
	return a
}

// even is E of the chapter, three accepts 0, 1 0 and 1 1 0, none no word, and all every word of so many symbols.
func even() api.Automaton { return auto(2, "10", []int{0, 1}, []int{1, 0}) }
func three() api.Automaton {
	return auto(2, "0001", []int{3, 1}, []int{3, 2}, []int{3, -1}, []int{-1, -1})
}
func none(symbols int) api.Automaton {
	return api.Automaton{Symbols: symbols}
}
func all(symbols int) api.Automaton {
	return auto(symbols, "1", make([]int, symbols))
}

// ring returns the automaton of one symbol whose n states form a circle, with some accepting ones.
func ring(n int, accept ...int) api.Automaton {
	a := api.Automaton{Symbols: 1, Accept: make([]bool, n)}
	for s := range n {
		a.Next = append(a.Next, []int{(s + 1) % n})
	}
	for _, s := range accept {
		a.Accept[s] = true
	}
	return a
}

// chain returns the automaton of the words of these lengths, of which the last one is the greatest.
func chain(symbols int, lengths ...int) api.Automaton {
	n := lengths[len(lengths)-1] + 1
	a := ring(n, lengths...)
	a.Next[n-1][0] = -1
	return widened(a, symbols)
}

// widened returns an automaton of one symbol with more of them, which lead where this one does.
func widened(a api.Automaton, symbols int) api.Automaton {
	a.Symbols = symbols
	for s, row := range a.Next {
		a.Next[s] = slices.Repeat(row, symbols)
	}
	return a
}

// beside returns an automaton with the states of another one behind its own; they are reached by none.
func beside(a, b api.Automaton) api.Automaton {
	base := len(a.Next)
	a = copied(a)
	for s, row := range copied(b).Next {
		for x := range row {
			if row[x] >= 0 {
				row[x] += base
			}
		}
		a.Next = append(a.Next, row)
		a.Accept = append(a.Accept, b.Accept[s])
	}
	return a
}

func copied(a api.Automaton) api.Automaton {
	a.Accept = slices.Clone(a.Accept)
	a.Next = slices.Clone(a.Next)
	for s := range a.Next {
		a.Next[s] = slices.Clone(a.Next[s])
	}
	return a
}

// random returns an automaton with up to n states.
func random(r *rand.Rand, n, symbols int) api.Automaton {
	n = r.Intn(n + 1)
	a := api.Automaton{Symbols: symbols}
	for range n {
		row := make([]int, symbols)
		for x := range row {
			row[x] = r.Intn(n+1) - 1
		}
		a.Next = append(a.Next, row)
		a.Accept = append(a.Accept, r.Intn(3) == 0)
	}
	if n > 0 {
		a.Start = r.Intn(n)
	}
	return a
}

// randomFinite returns an automaton with up to n states that accepts finitely many words: its ways go down, but for those of a state that leads to no acceptance.
func randomFinite(r *rand.Rand, n, symbols int) api.Automaton {
	a := random(r, n, symbols)
	for s, row := range a.Next {
		for x := range row {
			if row[x] >= s && s > 0 {
				row[x] = r.Intn(s+1) - 1
			}
		}
	}
	if len(a.Next) > 0 {
		a.Accept[0] = a.Start == 0
		a.Next[0] = make([]int, symbols)
		if a.Accept[0] {
			a.Next[0] = slices.Repeat([]int{-1}, symbols)
		}
	}
	return a
}

// every yields all automata of so many states and symbols.
func every(states, symbols int) iter.Seq[api.Automaton] {
	return func(yield func(api.Automaton) bool) {
		ways := 1
		for range states * symbols {
			ways *= states + 1
		}
		for i := range states * ways << states {
			a := api.Automaton{Symbols: symbols, Start: i % states}
			i /= states
			for range states {
				a.Accept = append(a.Accept, i%2 == 1)
				i /= 2
			}
			for range states {
				row := make([]int, symbols)
				for x := range row {
					row[x] = i%(states+1) - 1
					i /= states + 1
				}
				a.Next = append(a.Next, row)
			}
			if !yield(a) {
				return
			}
		}
	}
}

// samples yields automata of all kinds: all small ones, and random ones.
func samples(seed int64, number int) iter.Seq[api.Automaton] {
	return func(yield func(api.Automaton) bool) {
		for _, x := range [][2]int{{1, 1}, {1, 2}, {2, 1}, {2, 2}, {3, 1}} {
			for a := range every(x[0], x[1]) {
				if !yield(a) {
					return
				}
			}
		}
		r := rand.New(rand.NewSource(seed))
		for range number {
			a := random(r, 5, 1+r.Intn(3))
			if r.Intn(2) == 0 {
				a = randomFinite(r, 5, 1+r.Intn(3))
			}
			if !yield(a) {
				return
			}
		}
	}
}

// accepts reports whether a word is accepted, by the definition.
func accepts(a api.Automaton, w []int) bool {
	if len(a.Next) == 0 {
		return false
	}
	s := a.Start
	for _, x := range w {
		if s = a.Next[s][x]; s < 0 {
			return false
		}
	}
	return a.Accept[s]
}

// words yields all words of at most so many symbols, in their order.
func words(symbols, longest int) iter.Seq[[]int] {
	return func(yield func([]int) bool) {
		layer := [][]int{{}}
		for range longest + 1 {
			var next [][]int
			for _, w := range layer {
				if !yield(w) {
					return
				}
				for x := range symbols {
					next = append(next, append(slices.Clone(w), x))
				}
			}
			layer = next
		}
	}
}

// accepted returns the accepted words of at most so many symbols, in their order.
func accepted(a api.Automaton, longest int) [][]int {
	var out [][]int
	for w := range words(a.Symbols, longest) {
		if accepts(a, w) {
			out = append(out, w)
		}
	}
	return out
}

// isFinite reports whether finitely many words are accepted: none then is as long as there are states. (One that is could be shortened, by no more than that, until it is shorter than twice as long.)
func isFinite(a api.Automaton) bool {
	n := len(a.Next)
	at := make([]bool, n)
	if n > 0 {
		at[a.Start] = true
	}
	for length := range 2 * n {
		next := make([]bool, n)
		for s, is := range at {
			if is && a.Accept[s] && length >= n {
				return false
			}
			for _, to := range a.Next[s] {
				if is && to >= 0 {
					next[to] = true
				}
			}
		}
		at = next
	}
	return true
}

// invalid returns automata each of which breaks one condition.
func invalid() map[string]api.Automaton {
	return map[string]api.Automaton{
		"zero":               {},
		"negative symbols":   {Symbols: -1},
		"too many symbols":   {Symbols: api.MaxSymbol + 1},
		"start of no states": {Symbols: 1, Start: 1},
		"start behind":       {Symbols: 1, Start: 1, Accept: []bool{true}, Next: [][]int{{0}}},
		"more rows":          {Symbols: 1, Accept: []bool{true}, Next: [][]int{{0}, {0}}},
		"fewer rows":         {Symbols: 1, Accept: []bool{true, true}, Next: [][]int{{0}}},
		"short row":          {Symbols: 2, Accept: []bool{true}, Next: [][]int{{0}}},
		"long row":           {Symbols: 2, Accept: []bool{true}, Next: [][]int{{0, 0, 0}}},
		"entry below -1":     {Symbols: 2, Accept: []bool{true}, Next: [][]int{{0, -2}}},
		"entry too great":    {Symbols: 2, Accept: []bool{true}, Next: [][]int{{0, 1}}},
		"too many states":    ring(api.MaxStates + 1),
	}
}

// outside returns numbers that are not from 0 to n.
func outside(n int) []int {
	return []int{-1, n + 1, -1 << 63, 1<<63 - 1}
}

// brief writes the beginning of a value.
func brief(v any) string {
	return fmt.Sprintf("%.300s", fmt.Sprint(v))
}
