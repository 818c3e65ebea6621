package fsa

import (
	"iter"

	"cayley/api"
)

// net is a nondeterministic automaton.
type net struct {
	symbols int
	start   []int
	accept  []bool
	arcs    [][]arc // of each state
}

// arc leads to a state by a symbol.
type arc struct{ symbol, to int32 }

// newNet returns a net of so many states, without arcs.
func newNet(symbols, states int) net {
	return net{symbols: symbols, accept: make([]bool, states), arcs: make([][]arc, states)}
}

// add adds an arc.
func (n net) add(from, symbol, to int) {
	n.arcs[from] = append(n.arcs[from], arc{int32(symbol), int32(to)})
}

// lay adds the arcs of an automaton, whose state 0 is the state base of the net.
func (n net) lay(a api.Automaton, base int) {
	for from, row := range a.Next {
		for symbol, to := range row {
			if to >= 0 {
				n.add(base+from, symbol, base+to)
			}
		}
	}
}

// bridge makes each arc of an automaton that leads to acceptance lead to one more state, too. The automaton's states have the same numbers in the net.
func (n net) bridge(a api.Automaton, onward int) {
	for from, row := range a.Next {
		for symbol, to := range row {
			if to >= 0 && a.Accept[to] {
				n.add(from, symbol, onward)
			}
		}
	}
}

// concatenation returns the net of the words of a with one of b behind: states of a, then those of b.
func concatenation(a, b api.Automaton) net {
	base := len(a.Next)
	n := newNet(a.Symbols, base+len(b.Next))
	n.lay(a, 0)
	n.lay(b, base)
	copy(n.accept[base:], b.Accept)
	if len(a.Next) > 0 {
		n.start = append(n.start, a.Start)
	}
	if len(a.Next) > 0 && len(b.Next) > 0 {
		n.bridge(a, base+b.Start)
		if a.Accept[a.Start] {
			n.start = append(n.start, base+b.Start)
		}
	}
	return n
}

// repetition returns the net of words of an automaton one behind the other: at least one of them.
func repetition(a api.Automaton) net {
	n := newNet(a.Symbols, len(a.Next))
	n.lay(a, 0)
	copy(n.accept, a.Accept)
	if len(a.Next) > 0 {
		n.start = append(n.start, a.Start)
		n.bridge(a, a.Start)
	}
	return n
}

// reversal returns the net of the reversed words of an automaton.
func reversal(a api.Automaton) net {
	n := newNet(a.Symbols, len(a.Next))
	for from, row := range a.Next {
		for symbol, to := range row {
			if to >= 0 {
				n.add(to, symbol, from)
			}
		}
	}
	for s, accepts := range a.Accept {
		n.accept[s] = s == a.Start
		if accepts {
			n.start = append(n.start, s)
		}
	}
	return n
}

// sets returns the space of the sets of states in which words end, if they are followed through all states at the same time.
func (n net) sets() space[string] {
	start := newSet(len(n.arcs))
	for _, s := range n.start {
		start.add(s)
	}
	ends := make([]set, n.symbols) // empty between steps
	for symbol := range ends {
		ends[symbol] = newSet(len(n.arcs))
	}
	return space[string]{
		symbols: n.symbols,
		start:   start.take(),
		accepts: n.acceptsSome,
		steps: func(key string) iter.Seq2[int, string] {
			return func(yield func(int, string) bool) {
				for s := range members(key) {
					for _, arc := range n.arcs[s] {
						ends[arc.symbol].add(int(arc.to))
					}
				}
				goesOn := true
				for symbol := range ends {
					next := ends[symbol].take()
					goesOn = goesOn && yield(symbol, next)
				}
			}
		},
	}
}

// acceptsSome reports whether one of the states of a set accepts.
func (n net) acceptsSome(key string) bool {
	for s := range members(key) {
		if n.accept[s] {
			return true
		}
	}
	return false
}
