package pair

// least returns the least machine of the same language: each state is reached and leads to acceptance, no two accept the same, and they are numbered breadth first. Package fsa makes it, too, but just of automata with few states.
func (m *machine) least() *machine {
	t := m.trimmed()
	if t.states() == 0 {
		return t
	}
	c := t.classes()
	return build(m.symbols, c.class[0], len(c.spans), func(class int32, lead func(int, int32)) bool {
		member := c.members(class)[0]
		for _, a := range t.from(member) {
			lead(int(a.symbol), c.class[a.to])
		}
		return t.accept[member]
	})
}

// trimmed returns the machine without the arcs that do not lead to acceptance, and without states if there is none.
func (m *machine) trimmed() *machine {
	live := m.closure(m.accept, func(arc) bool { return true })
	t := nothing(m.symbols)
	if !live[0] {
		return t
	}
	t.accept = m.accept
	for s := range m.states() {
		for _, a := range m.from(s) {
			if live[a.to] {
				t.arcs = append(t.arcs, a)
			}
		}
		t.first = append(t.first, len(t.arcs))
	}
	return t
}

// span is where the members of a class are: those from start to marked have marks, those from there to end have none.
type span struct{ start, marked, end int32 }

// classes parts states into classes, which are numbered.
type classes struct {
	order []int32 // the states, class by class
	place []int32 // of each state: where it is among these
	class []int32 // of each state
	spans []span  // of each class
}

// newClasses parts states by what is said of each one.
func newClasses(is []bool) *classes {
	n := len(is)
	c := &classes{place: make([]int32, n), class: make([]int32, n)}
	for _, part := range []bool{false, true} {
		start := int32(len(c.order))
		for s := range is {
			if is[s] == part {
				c.order = append(c.order, int32(s))
			}
		}
		c.open(start, int32(len(c.order)))
	}
	return c
}

func (c *classes) members(class int32) []int32 {
	return c.order[c.spans[class].start:c.spans[class].end]
}

// open makes a stretch of the order a class, unless it is empty.
func (c *classes) open(start, end int32) {
	if start == end {
		return
	}
	for i := start; i < end; i++ {
		c.place[c.order[i]] = i
		c.class[c.order[i]] = int32(len(c.spans))
	}
	c.spans = append(c.spans, span{start, start, end})
}

// mark marks a state that has no mark, and reports whether it is the first one of its class.
func (c *classes) mark(s int32) bool {
	in := &c.spans[c.class[s]]
	from, to := c.place[s], in.marked
	other := c.order[to]
	c.order[from], c.place[other] = other, from
	c.order[to], c.place[s] = s, to
	in.marked++
	return to == in.start
}

// part parts the marked members of a class from the others, and removes the marks. The smaller part becomes the new class: so a state is but a few times in a new one.
func (c *classes) part(class int32) {
	old := c.spans[class]
	cut := old.marked
	if cut-old.start <= old.end-cut {
		c.spans[class] = span{cut, cut, old.end}
		c.open(old.start, cut)
	} else {
		c.spans[class] = span{old.start, old.start, cut}
		c.open(cut, old.end)
	}
}

// split splits the classes of which some states are members, but not all.
func (c *classes) split(some []int32) {
	var touched []int32
	for _, s := range some {
		if c.mark(s) {
			touched = append(touched, c.class[s])
		}
	}
	for _, class := range touched {
		c.part(class)
	}
}

// classes returns the classes of states that accept the same words.
//
// This is Hopcroft's algorithm: each class takes a turn, in which those are split from the others that lead to it by a symbol. A class that is split behind its turn has done its part: it is enough that the new one takes a turn, too. What leads nowhere needs no turn, as each class does.
func (m *machine) classes() *classes {
	c := newClasses(m.accept)
	back := m.reversed()
	sources := make([][]int32, m.symbols)
	for turn := int32(0); int(turn) < len(c.spans); turn++ {
		var symbols []int32
		for _, s := range c.members(turn) {
			for _, a := range back.from(s) {
				if len(sources[a.symbol]) == 0 {
					symbols = append(symbols, a.symbol)
				}
				sources[a.symbol] = append(sources[a.symbol], a.to)
			}
		}
		for _, symbol := range symbols {
			c.split(sources[symbol])
			sources[symbol] = sources[symbol][:0]
		}
	}
	return c
}
