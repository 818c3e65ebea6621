package pair

import (
	"iter"
	"slices"

	"cayley/api"
)

// project returns the least machine of the first words of the pairs of a relation, of which m is the normal machine. Behind the end of the first word the second one goes on silently.
func (n letters) project(m *machine) *machine {
	if m.states() == 0 {
		return nothing(n.pad())
	}
	return subsets(net[int32]{
		symbols: n.pad(),
		accepts: m.accepts,
		moves: func(s int32) iter.Seq2[int, int32] {
			return func(yield func(int, int32) bool) {
				for x := range n.pad() {
					for _, a := range n.by(m.from(s), x) {
						if !yield(x, a.to) {
							return
						}
					}
				}
			}
		},
		silent: func(s int32) iter.Seq[int32] {
			return func(yield func(int32) bool) {
				for _, a := range n.by(m.from(s), n.pad()) {
					if !yield(a.to) {
						return
					}
				}
			}
		},
	}, api.MaxPairSets)
}

// factor is the normal machine of a relation that is composed with another one, with one more state: that in which both words of a pair have ended, while the third word goes on. Two paddings lead there.
type factor struct {
	*machine
	end    int32
	goesOn []bool // of each state: whether the word in the middle may go on
}

// newFactor returns the factor of a normal machine, in whose pairs the word in the middle stands on a tape.
func (n letters) newFactor(m *machine, middle int) *factor {
	f := &factor{&machine{symbols: m.symbols + 1, accept: append(slices.Clone(m.accept), true), first: []int{0}}, m.states(), nil}
	for s, accepts := range f.accept {
		goesOn := false
		if int32(s) != f.end {
			for _, a := range m.from(int32(s)) {
				x, y := n.parts(int(a.symbol))
				goesOn = goesOn || [2]int{x, y}[middle] != n.pad()
				f.arcs = append(f.arcs, a)
			}
		}
		if accepts {
			f.arcs = append(f.arcs, arc{int32(n.symbols()), f.end})
		}
		f.first = append(f.first, len(f.arcs))
		f.goesOn = append(f.goesOn, goesOn)
	}
	return f
}

// composition is the net of the pairs (u, w) with a word v in the middle: its states are those of both factors.
type composition struct {
	letters
	a, b *factor
}

// compose returns the normal machine of the composition of two relations, of which a and b are the normal machines. A set of the net tells which word has ended, too: so there may be three times as many as sets of pairs of states.
func (n letters) compose(a, b *machine) *machine {
	if a.states() == 0 || b.states() == 0 {
		return nothing(n.symbols())
	}
	c := composition{n, n.newFactor(a, 1), n.newFactor(b, 0)}
	return subsets(net[[2]int32]{symbols: n.symbols(), accepts: c.accepts, moves: c.moves, silent: c.silent}, 3*api.MaxPairSets)
}

func (c composition) accepts(at [2]int32) bool {
	return c.a.accept[at[0]] && c.b.accept[at[1]]
}

// moves yields the moves from a pair of states: the first factor goes on by (x, y), the second one by (y, z), and so both go on by (x, z).
func (c composition) moves(at [2]int32) iter.Seq2[int, [2]int32] {
	return func(yield func(int, [2]int32) bool) {
		second := c.b.from(at[1])
		for _, f := range c.a.from(at[0]) {
			x, y := c.parts(int(f.symbol))
			for _, g := range c.by(second, y) {
				_, z := c.parts(int(g.symbol))
				if x == c.pad() && z == c.pad() {
					continue
				}
				to, is := c.settle(x, z, [2]int32{f.to, g.to})
				if is && !yield(c.symbol(x, z), to) {
					return
				}
			}
		}
	}
}

// silent yields where a letter of v alone leads from a pair of states, behind the ends of u and w.
func (c composition) silent(at [2]int32) iter.Seq[[2]int32] {
	return func(yield func([2]int32) bool) {
		second := c.b.from(at[1])
		for _, f := range c.by(c.a.from(at[0]), c.pad()) {
			_, y := c.parts(int(f.symbol))
			for _, g := range c.by(second, y) {
				_, z := c.parts(int(g.symbol))
				if y != c.pad() && z == c.pad() && !yield([2]int32{f.to, g.to}) {
					return
				}
			}
		}
	}
}

// settle returns a pair of states to which x and z lead, and whether it can lead to acceptance, as far as this is seen at once. If u has ended, and v cannot go on, all that matters of the first factor is whether it accepts: so it is at its end. Likewise for w, v and the second factor.
func (c composition) settle(x, z int, at [2]int32) ([2]int32, bool) {
	is := true
	if x == c.pad() && !c.b.goesOn[at[1]] {
		is = c.a.accept[at[0]]
		at[0] = c.a.end
	}
	if z == c.pad() && !c.a.goesOn[at[0]] {
		is = c.b.accept[at[1]]
		at[1] = c.b.end
	}
	return at, is
}
