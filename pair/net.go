package pair

import (
	"iter"

	"cayley/api"
)

// net is a nondeterministic automaton: several moves may have one symbol, and there are silent ones, without symbol.
type net[S comparable] struct {
	symbols int
	start   S
	accepts func(s S) bool
	moves   func(s S) iter.Seq2[int, S]
	silent  func(s S) iter.Seq[S]
}

// follower follows words through all states of a net at the same time. It numbers states as it meets them.
type follower[S comparable] struct {
	net[S]
	states  []S
	numbers map[S]int32
	ends    []bool  // of each state: whether silent moves lead from it to acceptance
	goesOn  []bool  // of each state: whether it has moves with symbols
	arcs    [][]arc // of each state: these moves, if they are kept
	room    int     // for more of them
	sets    []set   // of each symbol, empty between steps
}

// subsets returns the least machine of the words that a net accepts. A set of states is known by those that go on, and by whether one ends: so it does not matter by what silent moves a word can end. There is a limit on the number of sets.
func subsets[S comparable](n net[S], most int) *machine {
	f := &follower[S]{net: n, numbers: map[S]int32{}, room: maxArcs, sets: make([]set, n.symbols)}
	var start set
	f.gather(&start, f.meet(n.start))
	return build(n.symbols, start.take(), most, f.step).least()
}

// enter returns the number of a state, which may be new.
func (f *follower[S]) enter(s S) int32 {
	number, known := f.numbers[s]
	if known {
		return number
	}
	if len(f.states) == maxKeys {
		panic(api.ErrLimit)
	}
	number = int32(len(f.states))
	goesOn := f.hasMoves(s)
	f.numbers[s] = number
	f.states = append(f.states, s)
	f.ends = append(f.ends, false)
	f.goesOn = append(f.goesOn, goesOn)
	f.arcs = append(f.arcs, nil)
	return number
}

func (f *follower[S]) hasMoves(s S) bool {
	for range f.moves(s) {
		return true
	}
	return false
}

// meet returns the number of a state. If it is new, all states to which silent moves lead from it are met, too; which of them end is found backwards from those that accept, or are known to end.
func (f *follower[S]) meet(s S) int32 {
	base := int32(len(f.states))
	number := f.enter(s)
	var good []int32
	before := map[int32][]int32{} // of a new state: those with silent moves to it
	for i := base; int(i) < len(f.states); i++ {
		if f.accepts(f.states[i]) {
			good = append(good, i)
		}
		for to := range f.silent(f.states[i]) {
			if next := f.enter(to); next >= base {
				before[next] = append(before[next], i)
			} else if f.ends[next] {
				good = append(good, i)
			}
		}
	}
	for len(good) > 0 {
		i := good[len(good)-1]
		good = good[:len(good)-1]
		if !f.ends[i] {
			f.ends[i] = true
			good = append(good, before[i]...)
		}
	}
	return number
}

// visible returns the moves of a state with symbols, as far as they may lead to acceptance. They are kept while there is room.
func (f *follower[S]) visible(i int32) []arc {
	if f.arcs[i] != nil {
		return f.arcs[i]
	}
	arcs := []arc{}
	for symbol, s := range f.moves(f.states[i]) {
		if to := f.meet(s); f.ends[to] || f.goesOn[to] {
			arcs = append(arcs, arc{int32(symbol), to})
		}
	}
	if len(arcs) <= f.room {
		f.room -= len(arcs)
		f.arcs[i] = arcs
	}
	return arcs
}

// gather adds a state to a set.
func (f *follower[S]) gather(s *set, i int32) {
	s.flag = s.flag || f.ends[i]
	if f.goesOn[i] {
		s.add(i)
	}
}

// step tells where symbols lead from a set, and whether it accepts.
func (f *follower[S]) step(key string, lead func(int, string)) bool {
	for i := range members(key) {
		for _, a := range f.visible(i) {
			f.gather(&f.sets[a.symbol], a.to)
		}
	}
	for symbol := range f.sets {
		if next := f.sets[symbol].take(); next != "" {
			lead(symbol, next)
		}
	}
	return hasFlag(key)
}
