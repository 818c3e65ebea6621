package fsa

import (
	"iter"
	"slices"
)

// element is what is grouped and parted into classes: states, or edges.
type element interface{ state | link }

// groups has the elements from 0 on in the order of their keys; those with the key k are elements[starts[k]:starts[k+1]].
type groups[E element] struct {
	elements []E
	starts   []int32
}

// group groups the elements below n by their keys, which are below keys. Elements with one key remain in ascending order.
func group[E element](n, keys int, key func(E) int) groups[E] {
	g := groups[E]{make([]E, n), make([]int32, keys+1)}
	for e := range E(n) {
		g.starts[key(e)+1]++
	}
	for k := range keys {
		g.starts[k+1] += g.starts[k]
	}
	free := slices.Clone(g.starts)
	for e := range E(n) {
		k := key(e)
		g.elements[free[k]] = e
		free[k]++
	}
	return g
}

// of returns the elements with a key.
func (g groups[E]) of(key int) []E {
	return g.elements[g.starts[key]:g.starts[key+1]]
}

// span is where the elements of a class are: those from start to marked have marks, those from there to end have none.
type span struct{ start, marked, end int32 }

// partition parts elements into classes, which are numbered.
type partition[E element] struct {
	elements []E     // class by class
	places   []int32 // of each element: where it is among these
	class    []int32 // of each element
	spans    []span  // of each class
	touched  []int32 // the classes with marks
}

// newPartition returns the partition into the groups that are not empty.
func newPartition[E element](g groups[E]) *partition[E] {
	n := len(g.elements)
	p := &partition[E]{elements: g.elements, places: make([]int32, n), class: make([]int32, n)}
	for k := range len(g.starts) - 1 {
		if len(g.of(k)) > 0 {
			p.open(g.starts[k], g.starts[k+1])
		}
	}
	return p
}

// of returns the elements of a class.
func (p *partition[E]) of(class int32) []E {
	return p.elements[p.spans[class].start:p.spans[class].end]
}

// count returns the number of classes.
func (p *partition[E]) count() int32 {
	return int32(len(p.spans))
}

// open makes a stretch of the elements a new class.
func (p *partition[E]) open(start, end int32) {
	for i := start; i < end; i++ {
		p.places[p.elements[i]] = i
		p.class[p.elements[i]] = p.count()
	}
	p.spans = append(p.spans, span{start, start, end})
}

// mark marks an element that has no mark.
func (p *partition[E]) mark(e E) {
	s := &p.spans[p.class[e]]
	if s.marked == s.start {
		p.touched = append(p.touched, p.class[e])
	}
	from, to := p.places[e], s.marked
	other := p.elements[to]
	p.elements[from], p.places[other] = other, from
	p.elements[to], p.places[e] = e, to
	s.marked++
}

// split parts the marked elements of a class from the others, and removes the marks. The smaller part becomes the new class: so an element is but a few times in a new one.
func (p *partition[E]) split(class int32) {
	old := p.spans[class]
	switch marked, others := old.marked-old.start, old.end-old.marked; {
	case others == 0:
		p.spans[class] = span{old.start, old.start, old.end}
	case marked <= others:
		p.spans[class] = span{old.marked, old.marked, old.end}
		p.open(old.start, old.marked)
	default:
		p.spans[class] = span{old.start, old.start, old.marked}
		p.open(old.marked, old.end)
	}
}

// refine splits the classes in which some elements are marked, and others are not. What is marked is yielded once each.
func refine[E element](p *partition[E], marked iter.Seq[E]) {
	for e := range marked {
		p.mark(e)
	}
	for _, class := range p.touched {
		p.split(class)
	}
	p.touched = p.touched[:0]
}

// classes returns the classes of states that accept the same words, for a machine that has been trimmed: so it matters which edges there are.
//
// This is the algorithm of Valmari and Lehtinen. Edges are parted, too: in the end by their symbols and by the classes that they lead to. A class of edges splits the states that have one of them from those that have none; a class of states splits the edges that lead to it from those that do not. A class that is split after its turn has done its part: it is enough that the smaller one of the parts takes a turn as well. So the time is that of sorting the edges, also for many symbols of which each state has few.
func (m *machine) classes() *partition[state] {
	states := newPartition(group(len(m.accept), 2, func(s state) int {
		if m.accept[s] {
			return 1
		}
		return 0
	}))
	links := newPartition(group(len(m.edges), m.symbols, func(l link) int { return int(m.edges[l].symbol) }))
	to := m.edgesTo()
	stateTurn, linkTurn := int32(1), int32(0) // what does not lead to other classes of states, leads to the class 0: it needs no turn
	for states.count() < int32(len(m.accept)) {
		switch { // states are far fewer than edges, so they are split as far as possible first
		case linkTurn < links.count():
			refine(states, m.sources(links.of(linkTurn)))
			linkTurn++
		case stateTurn < states.count():
			refine(links, joined(to, states.of(stateTurn)))
			stateTurn++
		default:
			return states
		}
	}
	return states
}

// sources yields the states that edges leave.
func (m *machine) sources(some []link) iter.Seq[state] {
	return func(yield func(state) bool) {
		for _, l := range some {
			if !yield(m.edges[l].from) {
				return
			}
		}
	}
}

// joined yields the edges of the groups of some states.
func joined(g groups[link], some []state) iter.Seq[link] {
	return func(yield func(link) bool) {
		for _, s := range some {
			for _, l := range g.of(int(s)) {
				if !yield(l) {
					return
				}
			}
		}
	}
}
