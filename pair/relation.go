package pair

import (
	"cmp"
	"slices"

	"cayley/api"
	"cayley/fsa"
)

// normal returns the normal machine of the relation of a pair automaton. It may have three times as many states.
func (n letters) normal(a api.Automaton) *machine {
	if len(a.Next) == 0 {
		return nothing(n.symbols())
	}
	type key struct {
		state int
		ended tape
	}
	return build(n.symbols(), key{a.Start, neither}, 3*api.MaxStates, func(k key, lead func(int, key)) bool {
		for symbol, to := range a.Next[k.state] {
			if ended, is := n.after(k.ended, symbol); is && to != nowhere {
				lead(symbol, key{to, ended})
			}
		}
		return a.Accept[k.state]
	}).least()
}

// converse returns the normal machine of the converse of a relation, of which m is the normal machine.
func (n letters) converse(m *machine) *machine {
	if m.states() == 0 {
		return nothing(n.symbols())
	}
	return build(n.symbols(), m.start(), len(m.accept), func(s int32, lead func(int, int32)) bool {
		arcs := slices.Clone(m.from(s))
		for i, a := range arcs {
			x, y := n.parts(int(a.symbol))
			arcs[i].symbol = int32(n.symbol(y, x))
		}
		slices.SortFunc(arcs, func(a, b arc) int { return cmp.Compare(a.symbol, b.symbol) })
		for _, a := range arcs {
			lead(int(a.symbol), a.to)
		}
		return m.accept[s]
	})
}

// combine returns the normal machine of a combination of the relations of two normal machines.
func combine(op int, a, b *machine) *machine {
	start := [2]int32{a.start(), b.start()}
	return build(a.symbols, start, api.MaxPairSets, func(at [2]int32, lead func(int, [2]int32)) bool {
		p, q := a.from(at[0]), b.from(at[1])
		for len(p)+len(q) > 0 {
			symbol := min(head(p), head(q))
			to := [2]int32{take(&p, symbol), take(&q, symbol)}
			if mayHold(op, to) {
				lead(int(symbol), to)
			}
		}
		return combines(op, a.accepts(at[0]), b.accepts(at[1]))
	}).least()
}

// head returns the symbol of the first arc of a list; if there is none, it is greater than all.
func head(arcs []arc) int32 {
	if len(arcs) == 0 {
		return api.MaxSymbol
	}
	return arcs[0].symbol
}

// take takes the first arc from a list, if it has this symbol, and returns where it leads.
func take(arcs *[]arc, symbol int32) int32 {
	if head(*arcs) != symbol {
		return nowhere
	}
	to := (*arcs)[0].to
	*arcs = (*arcs)[1:]
	return to
}

// combines tells whether a pair belongs to a combination, if it belongs to the relations or not.
func combines(op int, isFirst, isSecond bool) bool {
	switch op {
	case api.FsaAnd:
		return isFirst && isSecond
	case api.FsaOr:
		return isFirst || isSecond
	case api.FsaMinus:
		return isFirst && !isSecond
	default:
		return isFirst != isSecond
	}
}

// mayHold tells whether a combination goes on from two states: it does not if one that it needs is nowhere.
func mayHold(op int, at [2]int32) bool {
	isFirst, isSecond := at[0] != nowhere, at[1] != nowhere
	return isFirst && isSecond || combines(op, isFirst, isSecond)
}

// language is the canonical automaton of a language. A word of it that has been read to its end leads nowhere.
type language struct{ api.Automaton }

// newLanguage returns the language of a valid automaton.
func newLanguage(a api.Automaton) language {
	canonical, _ := fsa.Canon(a) // it has no more states than a, so there is no error
	return language{canonical}
}

// follow returns where a letter, or the padding, leads, and whether a word of the language can go on so.
func (l language) follow(s int32, letter int) (int32, bool) {
	if letter == l.Symbols {
		return nowhere, l.ends(s)
	}
	to := l.Next[s][letter]
	return int32(to), to != nowhere
}

// ends tells whether a word may end at a state, or has ended.
func (l language) ends(s int32) bool {
	return s == nowhere || l.Accept[s]
}

// restrict returns the normal machine of a restriction of a relation, of which m is the normal machine. The chapter describes no construction that may end by a limit: so there is as much room as memory allows.
func (n letters) restrict(m *machine, u, v language) *machine {
	if m.states() == 0 || len(u.Next) == 0 || len(v.Next) == 0 {
		return nothing(n.symbols())
	}
	most := min(maxKeys, maxArcs/n.symbols())
	return build(n.symbols(), [3]int32{}, most, func(at [3]int32, lead func(int, [3]int32)) bool {
		for _, a := range m.from(at[0]) {
			x, y := n.parts(int(a.symbol))
			p, isFirst := u.follow(at[1], x)
			q, isSecond := v.follow(at[2], y)
			if isFirst && isSecond {
				lead(int(a.symbol), [3]int32{a.to, p, q})
			}
		}
		return m.accept[at[0]] && u.ends(at[1]) && v.ends(at[2])
	}).least()
}

// diagonal returns the normal machine of the diagonal of a language.
func (n letters) diagonal(l language) *machine {
	if len(l.Next) == 0 {
		return nothing(n.symbols())
	}
	return build(n.symbols(), l.Start, len(l.Next), func(s int, lead func(int, int)) bool {
		for letter, to := range l.Next[s] {
			if to != nowhere {
				lead(n.symbol(letter, letter), to)
			}
		}
		return l.Accept[s]
	})
}
