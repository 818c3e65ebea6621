package rope

import "cayley/api"

// maxSliceNodes is the number of nodes of a rope that can be sliced.
const maxSliceNodes = 400

// Slice returns a rope of the letters from i to j - 1.
func Slice(a []api.RopeNode, i, j int) ([]api.RopeNode, api.Errno) {
	length, err := measure(a)
	if err != api.OK {
		return nil, err
	}
	if i < 0 || j < i || j > length(len(a)-1) {
		return nil, api.ErrArg
	}
	if len(a) > maxSliceNodes {
		return nil, api.ErrLimit
	}
	if i == j {
		return nil, api.OK
	}
	s := newSlicer(a, length)
	s.cut(len(a)-1, i, j)
	return s.out, api.OK
}

// slicer builds a rope of a part of another one.
type slicer struct {
	from   []api.RopeNode
	length func(at int) int // of the nodes of from
	keep   func(at int) int // puts a whole node of from, with those that it uses, into out, unless it is there, and returns its index there
	out    []api.RopeNode
}

func newSlicer(from []api.RopeNode, length func(at int) int) *slicer {
	s := &slicer{from: from, length: length}
	s.keep = evaluator(from, meaning[int]{
		leaf:  func(w string) int { return s.add(api.RopeNode{Word: w}) },
		join:  s.join,
		power: s.power,
	})
	return s
}

// add puts a node into out and returns its index.
func (s *slicer) add(node api.RopeNode) int {
	s.out = append(s.out, node)
	return len(s.out) - 1
}

func (s *slicer) join(left, right int) int {
	return s.add(api.RopeNode{Left: left, Right: right})
}

func (s *slicer) power(base, times int) int {
	return s.add(api.RopeNode{Left: base, Times: times})
}

// cut puts a node with the letters from i to j - 1 of a node, at least one, into out, unless it is there, and returns its index. Of the call with which all begins it is the last one in out: as long as there is just one node to cut, nothing has been put there yet, and what is put together from parts comes behind them.
//
// Where both ends of a slice part, and at each node on the way of one of them from there on, at most two nodes come into out (three where they part), besides whole nodes: all in all at most five times as many as the rope has.
func (s *slicer) cut(at, i, j int) int {
	node := s.from[at]
	switch {
	case i == 0 && j == s.length(at):
		return s.keep(at)
	case kindOf(node) == leaf:
		return s.add(api.RopeNode{Word: node.Word[i:j]})
	case kindOf(node) == power:
		return s.cutPower(node.Left, i, j)
	}
	return s.cutJoin(node, i, j)
}

func (s *slicer) cutJoin(node api.RopeNode, i, j int) int {
	middle := s.length(node.Left)
	if j <= middle {
		return s.cut(node.Left, i, j)
	}
	if i >= middle {
		return s.cut(node.Right, i-middle, j-middle)
	}
	left := s.cut(node.Left, i, middle)
	right := s.cut(node.Right, 0, j-middle)
	return s.join(left, right)
}

// cutPower cuts a power of a node, if it does not cut a single copy: into the end of a copy, whole ones, and the beginning of one.
func (s *slicer) cutPower(base, i, j int) int {
	n := s.length(base)
	if ahead := i / n * n; j-ahead <= n {
		return s.cut(base, i-ahead, j-ahead)
	}
	var parts []int
	if i%n > 0 {
		parts = append(parts, s.cut(base, i%n, n))
	}
	if whole := j/n - (i+n-1)/n; whole > 0 {
		parts = append(parts, s.power(s.keep(base), whole))
	}
	if j%n > 0 {
		parts = append(parts, s.cut(base, 0, j%n))
	}
	out := parts[0]
	for _, part := range parts[1:] {
		out = s.join(out, part)
	}
	return out
}
