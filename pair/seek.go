package pair

import (
	"slices"

	"cayley/api"
)

// block is how many rows are made again at a time: the others are not kept.
const block = 256

// node is where prefixes of u and v of one length lead: twice a state, and 1 more if v agrees so far with the word that is not wanted.
type node int32

// row has the nodes behind a prefix of u and all v of its length, in the order of the least v that leads there: of each one, the place of the node ahead of its last letter, and this letter.
type row struct {
	nodes   []node
	parents []int32
	last    []uint8
}

// stop is a node behind a prefix of u and a v that ended earlier: with this length, at this place of its row.
type stop struct {
	node
	length, place int
}

// seeker seeks, for a word u, the least v for which (u, v) belongs to a relation.
type seeker struct {
	letters
	relation api.Automaton
	u        []int
	unwanted []int    // the one v that is not wanted
	kept     [][]node // of each block: its first row
	stamps   []int    // of each node: the round in which it came up last
	round    int
}

func newSeeker(n letters, a api.Automaton, u []int) *seeker {
	return &seeker{letters: n, relation: a, u: u, stamps: make([]int, 2*len(a.Next))}
}

// image returns the least v, and whether there is one.
func (s *seeker) image() ([]int, bool) {
	return s.seek(node(2 * s.relation.Start))
}

// imageBehind returns the least v but for one, which is the least of all.
func (s *seeker) imageBehind(unwanted []int) ([]int, bool) {
	s.unwanted = unwanted
	return s.seek(node(2*s.relation.Start + 1))
}

// ways returns where the letter u[i], or the padding, leads from a node with each letter at the same position of v, and with the padding; and with which one of them v still agrees.
func (s *seeker) ways(at node, i int) (to []int, agreed int) {
	to = s.relation.Next[at/2][s.symbol(s.at(s.u, i), 0):]
	agreed = nowhere
	if at%2 == 1 {
		agreed = s.at(s.unwanted, i)
	}
	return to[:min(len(to), s.pad()+1)], agreed
}

// nodeOf returns the node of a state.
func nodeOf(state int, agrees bool) node {
	if agrees {
		return node(2*state + 1)
	}
	return node(2 * state)
}

// accepts tells whether a v that leads to a node may end there. If it agrees with the one that is not wanted, it is this one: a part of it would have been found as the least v.
func (s *seeker) accepts(at node) bool {
	return at%2 == 0 && s.relation.Accept[at/2]
}

// isFresh tells whether a node comes up for the first time in a round.
func (s *seeker) isFresh(at node) bool {
	if s.stamps[at] == s.round {
		return false
	}
	s.stamps[at] = s.round
	return true
}

// seek returns the least v from a node on, and whether there is one: the shorter it is than u, the better.
func (s *seeker) seek(from node) ([]int, bool) {
	if len(s.relation.Next) == 0 {
		return nil, false
	}
	nodes := []node{from}
	var stops []stop
	for i := range s.u {
		if i%block == 0 {
			s.kept = append(s.kept, nodes)
		}
		stops = s.stopsBehind(stops, nodes, i)
		nodes = s.rowBehind(nodes, i).nodes
	}
	for _, e := range stops {
		if s.accepts(e.node) {
			return s.trace(e.length, e.place), true
		}
	}
	return s.beyond(nodes)
}

// rowBehind returns the row behind one with these nodes, whose words have i letters.
func (s *seeker) rowBehind(nodes []node, i int) row {
	s.round++
	var r row
	for place, at := range nodes {
		ways, agreed := s.ways(at, i)
		for y, to := range ways[:s.pad()] {
			if next := nodeOf(to, y == agreed); to != nowhere && s.isFresh(next) {
				r.nodes = append(r.nodes, next)
				r.parents = append(r.parents, int32(place))
				r.last = append(r.last, uint8(y))
			}
		}
	}
	return r
}

// stopsBehind returns the stops behind the next letter of u, in the order of the least v with which it leads there, which ends at one of the nodes, or ended at one of the stops.
func (s *seeker) stopsBehind(stops []stop, nodes []node, i int) []stop {
	s.round++
	var out []stop
	stopAt := func(at node, length, place int) {
		ways, agreed := s.ways(at, i)
		to := ways[s.pad()]
		if next := nodeOf(to, agreed == s.pad()); to != nowhere && s.isFresh(next) {
			out = append(out, stop{next, length, place})
		}
	}
	for _, e := range stops {
		stopAt(e.node, e.length, e.place)
	}
	for place, at := range nodes {
		stopAt(at, i, place)
	}
	return out
}

// trace returns the least v of a length that leads to a place of its row.
func (s *seeker) trace(length, place int) []int {
	v := make([]int, length)
	for i := length; i > 0; {
		base := (i - 1) / block * block
		rows := s.rowsBehind(base, i)
		for ; i > base; i-- {
			r := rows[i-base-1]
			v[i-1] = int(r.last[place])
			place = int(r.parents[place])
		}
	}
	return v
}

// rowsBehind returns the rows behind that of a block's first one, up to a length.
func (s *seeker) rowsBehind(base, length int) []row {
	nodes := s.kept[base/block]
	var rows []row
	for i := base; i < length; i++ {
		r := s.rowBehind(nodes, i)
		rows = append(rows, r)
		nodes = r.nodes
	}
	return rows
}

// branch is a node behind u and a v that is longer: with the branch that is one letter shorter, if there is one, and this letter.
type branch struct {
	node
	parent, letter, length int
}

// beyond returns the least v that is not shorter than u, whose last row has these nodes, and whether there is one. It passes no node twice, nor does the word that is not wanted: both are as short as they can be.
func (s *seeker) beyond(nodes []node) ([]int, bool) {
	s.round++
	var branches []branch
	for _, at := range nodes {
		branches = append(branches, branch{at, nowhere, 0, len(s.u)})
	}
	for i := 0; i < len(branches); i++ {
		b := branches[i]
		if s.accepts(b.node) {
			return s.grown(branches, i), true
		}
		ways, agreed := s.ways(b.node, b.length)
		for y, to := range ways {
			if next := nodeOf(to, y == agreed); to != nowhere && s.isFresh(next) {
				branches = append(branches, branch{next, i, y, b.length + 1})
			}
		}
	}
	return nil, false
}

// grown returns the v of a branch.
func (s *seeker) grown(branches []branch, i int) []int {
	var tail []int
	for branches[i].parent != nowhere {
		tail = append(tail, branches[i].letter)
		i = branches[i].parent
	}
	slices.Reverse(tail)
	return append(s.trace(len(s.u), i), tail...)
}
