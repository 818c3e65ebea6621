package pair

import (
	"slices"

	"cayley/api"
)

// nowhere stands for a state, where there is none.
const nowhere = -1

// What has no limit of its own has these, for the sake of memory.
const (
	maxKeys = 1 << 22
	maxArcs = 1 << 25
)

// arc leads to a state by a symbol.
type arc struct{ symbol, to int32 }

// machine is a deterministic automaton, with as many states as constructions need: so it keeps just the arcs that there are, those of each state in ascending order of their symbols. It starts at the state 0, if there is one.
type machine struct {
	symbols int
	accept  []bool
	first   []int // of each state: where its arcs begin; one more entry for the end
	arcs    []arc
}

// nothing returns the machine that accepts nothing.
func nothing(symbols int) *machine {
	return &machine{symbols: symbols, first: []int{0}}
}

func (m *machine) states() int32 {
	return int32(len(m.accept))
}

// start returns the start, which is nowhere if there are no states.
func (m *machine) start() int32 {
	if m.states() == 0 {
		return nowhere
	}
	return 0
}

// from returns the arcs of a state; there are none from nowhere.
func (m *machine) from(s int32) []arc {
	if s == nowhere {
		return nil
	}
	return m.arcs[m.first[s]:m.first[s+1]]
}

func (m *machine) accepts(s int32) bool {
	return s != nowhere && m.accept[s]
}

// build returns the machine whose states are the keys that steps reach from a start, numbered as they are reached. A step tells whether a key accepts, and where symbols lead from it, in ascending order. There is a limit on the number of keys.
func build[K comparable](symbols int, start K, most int, step func(key K, lead func(symbol int, to K)) bool) *machine {
	m := nothing(symbols)
	keys := []K{start}
	numbers := map[K]int32{start: 0}
	lead := func(symbol int, to K) {
		number, known := numbers[to]
		if !known {
			if len(keys) >= most {
				panic(api.ErrLimit)
			}
			number = int32(len(keys))
			keys = append(keys, to)
			numbers[to] = number
		}
		m.arcs = append(m.arcs, arc{int32(symbol), number})
	}
	for i := 0; i < len(keys); i++ {
		accepts := step(keys[i], lead)
		m.accept = append(m.accept, accepts)
		m.first = append(m.first, len(m.arcs))
	}
	return m
}

// reversed returns the arcs in reverse: those from a state are those that led to it. (This is no deterministic automaton.)
func (m *machine) reversed() *machine {
	r := &machine{symbols: m.symbols, accept: m.accept, first: make([]int, m.states()+1), arcs: make([]arc, len(m.arcs))}
	for _, a := range m.arcs {
		r.first[a.to+1]++
	}
	for s := range m.states() {
		r.first[s+1] += r.first[s]
	}
	free := slices.Clone(r.first)
	for s := range m.states() {
		for _, a := range m.from(s) {
			r.arcs[free[a.to]] = arc{a.symbol, s}
			free[a.to]++
		}
	}
	return r
}

// closure adds to some states all those from which arcs of one kind lead to them.
func (m *machine) closure(some []bool, kind func(arc) bool) []bool {
	back := m.reversed()
	out := slices.Clone(some)
	var found []int32
	for s := range m.states() {
		if out[s] {
			found = append(found, s)
		}
	}
	for i := 0; i < len(found); i++ {
		for _, a := range back.from(found[i]) {
			if !out[a.to] && kind(a) {
				out[a.to] = true
				found = append(found, a.to)
			}
		}
	}
	return out
}

// automaton writes the machine as an automaton.
func (m *machine) automaton() api.Automaton {
	if m.states() > api.MaxPairStates {
		panic(api.ErrLimit)
	}
	a := api.Automaton{Symbols: m.symbols, Accept: slices.Clone(m.accept)}
	for s := range m.states() {
		row := slices.Repeat([]int{nowhere}, m.symbols)
		for _, arc := range m.from(s) {
			row[arc.symbol] = int(arc.to)
		}
		a.Next = append(a.Next, row)
	}
	return a
}
