package lang

import (
	"cayley/api"
	"cayley/fsa"
)

// nowhere is what an entry of an automaton says that leads to no state.
const nowhere = -1

// language is the canonical automaton of a language: each of its states is reached from the start, and leads to acceptance.
type language struct{ api.Automaton }

// read returns the language of an automaton.
func read(a api.Automaton) (language, api.Errno) {
	canonical, err := fsa.Canon(a)
	return language{canonical}, err
}

// isEmpty reports whether no word is accepted.
func (l language) isEmpty() bool {
	return len(l.Next) == 0
}

// least returns the least word that leads from a state to acceptance.
func (l language) least(from int) []int {
	l.Start = from
	w, _, _ := fsa.Differ(l.Automaton, api.Automaton{Symbols: l.Symbols})
	return w
}

// path returns the states ahead of each symbol of a word, as far as it leads: then nowhere.
func (l language) path(w []int) []int {
	var states []int
	s := l.Start
	if l.isEmpty() {
		s = nowhere
	}
	for _, symbol := range w {
		states = append(states, s)
		if s != nowhere {
			s = l.Next[s][symbol]
		}
	}
	return states
}
