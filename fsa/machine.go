package fsa

import (
	"iter"
	"slices"

	"cayley/api"
)

// state is the number of a state of a machine, link that of an edge.
type (
	state int32
	link  int32
)

// edge leads from one state to another one by a symbol.
type edge struct {
	from, to state
	symbol   int32
}

// machine is a deterministic automaton, with at least one state, and with as many as constructions need: so it keeps just the edges that there are, those of each state in ascending order of their symbols.
type machine struct {
	symbols int
	start   state
	accept  []bool
	edges   []edge
}

// edgesFrom groups the edges by the states that they leave.
func (m *machine) edgesFrom() groups[link] {
	return group(len(m.edges), len(m.accept), func(l link) int { return int(m.edges[l].from) })
}

// edgesTo groups the edges by the states that they lead to.
func (m *machine) edgesTo() groups[link] {
	return group(len(m.edges), len(m.accept), func(l link) int { return int(m.edges[l].to) })
}

// trim removes the edges that lead to no acceptance.
func (m *machine) trim() {
	to := m.edgesTo()
	live := slices.Clone(m.accept)
	var found []state
	for s, accepts := range m.accept {
		if accepts {
			found = append(found, state(s))
		}
	}
	for i := 0; i < len(found); i++ {
		for _, l := range to.of(int(found[i])) {
			if from := m.edges[l].from; !live[from] {
				live[from] = true
				found = append(found, from)
			}
		}
	}
	m.edges = slices.DeleteFunc(m.edges, func(e edge) bool { return !live[e.to] })
}

// admitEmpty makes the machine accept the empty word, and otherwise what it did. The start may be reached again by words that must not be accepted for that: so there is a new one.
func (m *machine) admitEmpty() {
	start := state(len(m.accept))
	for _, l := range m.edgesFrom().of(int(m.start)) {
		e := m.edges[l]
		m.edges = append(m.edges, edge{start, e.to, e.symbol})
	}
	m.accept = append(m.accept, true)
	m.start = start
}

// canonical returns the canonical automaton of the machine, which is trimmed.
func (m *machine) canonical() (api.Automaton, api.Errno) {
	m.trim()
	least, err := explore(m.quotient(), api.MaxStates)
	if err != api.OK {
		return api.Automaton{}, err
	}
	return least.automaton(), api.OK
}

// quotient returns the space whose keys are the classes of states that accept the same words. The machine has been trimmed, so states of one class have edges by the same symbols.
func (m *machine) quotient() space[int32] {
	classes := m.classes()
	from := m.edgesFrom()
	member := func(class int32) int { return int(classes.of(class)[0]) }
	return space[int32]{
		symbols: m.symbols,
		start:   classes.class[m.start],
		accepts: func(class int32) bool { return m.accept[member(class)] },
		steps: func(class int32) iter.Seq2[int, int32] {
			return func(yield func(int, int32) bool) {
				for _, l := range from.of(member(class)) {
					e := m.edges[l]
					if !yield(int(e.symbol), classes.class[e.to]) {
						return
					}
				}
			}
		},
	}
}

// automaton writes a machine whose start is the state 0 as an automaton: one without states, if its start leads to no acceptance.
func (m *machine) automaton() api.Automaton {
	a := api.Automaton{Symbols: m.symbols}
	if len(m.edges) == 0 && !m.accept[0] {
		return a
	}
	a.Accept = m.accept
	for range m.accept {
		a.Next = append(a.Next, slices.Repeat([]int{-1}, m.symbols))
	}
	for _, e := range m.edges {
		a.Next[e.from][e.symbol] = int(e.to)
	}
	return a
}

// way returns the least word that leads from the start to a state, for a machine as explore makes it: the first edge to a state is the one by which it was reached.
func (m *machine) way(to state) []int {
	first := make([]link, len(m.accept))
	for l, e := range slices.Backward(m.edges) {
		first[e.to] = link(l)
	}
	var w []int
	for to != m.start {
		e := m.edges[first[to]]
		w = append(w, int(e.symbol))
		to = e.from
	}
	slices.Reverse(w)
	return w
}
