package fsa

import (
	"iter"

	"cayley/api"
)

// space is a deterministic automaton whose states have keys, and are known only once they are reached.
type space[K comparable] struct {
	symbols int
	start   K
	accepts func(K) bool
	steps   func(K) iter.Seq2[int, K] // the symbols, in ascending order, that lead on, and where to
}

// register numbers keys in the order in which they come up.
type register[K comparable] struct {
	keys    []K
	numbers map[K]state
}

func (r *register[K]) number(key K) state {
	n, known := r.numbers[key]
	if !known {
		n = state(len(r.keys))
		r.numbers[key] = n
		r.keys = append(r.keys, key)
	}
	return n
}

// reached yields the keys with their numbers, also those that come up in the meantime.
func (r *register[K]) reached() iter.Seq2[state, K] {
	return func(yield func(state, K) bool) {
		for i := 0; i < len(r.keys); i++ {
			if !yield(state(i), r.keys[i]) {
				return
			}
		}
	}
}

// explore returns the machine of the keys that are reached, numbered in breadth-first order; ErrLimit if they are more than most.
func explore[K comparable](s space[K], most int) (machine, api.Errno) {
	m := machine{symbols: s.symbols}
	r := &register[K]{numbers: map[K]state{}}
	r.number(s.start)
	for from, key := range r.reached() {
		m.accept = append(m.accept, s.accepts(key))
		for symbol, next := range s.steps(key) {
			to := r.number(next)
			m.edges = append(m.edges, edge{from, to, int32(symbol)})
		}
		if len(r.keys) > most {
			return machine{}, api.ErrLimit
		}
	}
	return m, api.OK
}

// whole is a valid automaton with one more state, that of leading nowhere, from which each symbol leads to itself. (The start of an automaton without states is this one.)
type whole struct{ api.Automaton }

func (w whole) nowhere() int {
	return len(w.Next)
}

func (w whole) accepts(s int) bool {
	return s != w.nowhere() && w.Accept[s]
}

func (w whole) step(s, symbol int) int {
	if s == w.nowhere() || w.Next[s][symbol] < 0 {
		return w.nowhere()
	}
	return w.Next[s][symbol]
}

// space returns the space of the states, in which what leads nowhere is left out.
func (w whole) space() space[int] {
	return space[int]{w.Symbols, w.Start, w.accepts, func(s int) iter.Seq2[int, int] {
		return func(yield func(int, int) bool) {
			for symbol := range w.Symbols {
				if to := w.step(s, symbol); to != w.nowhere() && !yield(symbol, to) {
					return
				}
			}
		}
	}}
}

// opposite returns the space of the states, where those accept that do not otherwise.
func opposite(w whole) space[int] {
	accepts := func(s int) bool { return !w.accepts(s) }
	return space[int]{w.Symbols, w.Start, accepts, everySymbol(w.Symbols, w.step)}
}

// pairs returns the space of the pairs of states of two automata.
func pairs(a, b whole, accepts func(p, q bool) bool) space[[2]int] {
	return space[[2]int]{
		symbols: a.Symbols,
		start:   [2]int{a.Start, b.Start},
		accepts: func(pair [2]int) bool { return accepts(a.accepts(pair[0]), b.accepts(pair[1])) },
		steps: everySymbol(a.Symbols, func(pair [2]int, symbol int) [2]int {
			return [2]int{a.step(pair[0], symbol), b.step(pair[1], symbol)}
		}),
	}
}

// combinations returns what each way to combine says of a word that two automata accept or not.
func combinations() [api.FsaXor + 1]func(p, q bool) bool {
	return [...]func(p, q bool) bool{
		api.FsaAnd:   func(p, q bool) bool { return p && q },
		api.FsaOr:    func(p, q bool) bool { return p || q },
		api.FsaMinus: func(p, q bool) bool { return p && !q },
		api.FsaXor:   func(p, q bool) bool { return p != q },
	}
}

// everySymbol returns the steps of a space in which every symbol leads on.
func everySymbol[K comparable](symbols int, step func(K, int) K) func(K) iter.Seq2[int, K] {
	return func(key K) iter.Seq2[int, K] {
		return func(yield func(int, K) bool) {
			for symbol := range symbols {
				if !yield(symbol, step(key, symbol)) {
					return
				}
			}
		}
	}
}
