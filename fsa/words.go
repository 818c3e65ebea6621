package fsa

import (
	"iter"
	"slices"
)

// tree returns the machine that accepts just the words of a list: its states are their prefixes. (With the words in order, edges of one state come up in the order of their symbols.)
func tree(symbols int, l [][]int) machine {
	m := machine{symbols: symbols, accept: []bool{false}}
	var last []int
	path := []state{0} // of the last word
	for _, w := range slices.SortedFunc(slices.Values(l), slices.Compare[[]int]) {
		common := shared(last, w)
		path = path[:common+1]
		for _, symbol := range w[common:] {
			next := state(len(m.accept))
			m.accept = append(m.accept, false)
			m.edges = append(m.edges, edge{path[len(path)-1], next, int32(symbol)})
			path = append(path, next)
		}
		m.accept[path[len(w)]] = true
		last = w
	}
	return m
}

// shared returns how many first symbols two words share.
func shared(v, w []int) int {
	i := 0
	for i < len(v) && i < len(w) && v[i] == w[i] {
		i++
	}
	return i
}

// words yields the words of at most so many symbols that are accepted, in their order; each is valid until the next one.
func (m *machine) words(most int) iter.Seq[[]int] {
	return func(yield func([]int) bool) {
		l := lister{machine: m, from: m.edgesFrom()}
		for ahead := m.accept; len(l.ahead) <= most && slices.Contains(ahead, true); ahead = m.before(ahead) {
			l.ahead = append(l.ahead, ahead)
			if ahead[m.start] && !l.visit(m.start, nil, len(l.ahead)-1, yield) {
				return
			}
		}
	}
}

// before returns the states that have an edge to one of some states.
func (m *machine) before(some []bool) []bool {
	out := make([]bool, len(some))
	for _, e := range m.edges {
		if some[e.to] {
			out[e.from] = true
		}
	}
	return out
}

// lister follows the words of a machine, but only where they lead to acceptance: ahead[n] has the states from which words of n symbols do.
type lister struct {
	*machine
	from  groups[link]
	ahead [][]bool
}

// visit yields the accepted words that begin with w, which leads to a state, and have so many symbols more, in their order; it reports whether to go on.
func (l *lister) visit(s state, w []int, more int, yield func([]int) bool) bool {
	if more == 0 {
		return yield(w)
	}
	for _, i := range l.from.of(int(s)) {
		e := l.edges[i]
		if l.ahead[more-1][e.to] && !l.visit(e.to, append(w, int(e.symbol)), more-1, yield) {
			return false
		}
	}
	return true
}
