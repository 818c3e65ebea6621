package rope

import (
	"cmp"

	"cayley/api"
	"cayley/word"
)

// kind is what a node is.
type kind int

const (
	leaf kind = iota
	join
	power
)

func kindOf(node api.RopeNode) kind {
	switch {
	case node.Word != "":
		return leaf
	case node.Times != 0:
		return power
	}
	return join
}

// isNode reports whether the node with an index has the fields that its kind needs.
func isNode(node api.RopeNode, at int) bool {
	switch kindOf(node) {
	case leaf:
		return isLeafWord(node.Word) && node.Left == 0 && node.Right == 0 && node.Times == 0
	case power:
		return node.Times > 0 && isBelow(node.Left, at) && node.Right == 0
	}
	return isBelow(node.Left, at) && isBelow(node.Right, at)
}

func isLeafWord(w string) bool {
	return len(w) <= api.MaxRopeLeaf && word.Check(api.MaxGens, w) == api.OK
}

// isBelow reports whether a node with an index may use another one.
func isBelow(other, at int) bool {
	return 0 <= other && other < at
}

// meaning says what the nodes of a rope stand for.
type meaning[V any] struct {
	leaf  func(w string) V
	join  func(x, y V) V
	power func(x V, times int) V
}

// evaluator returns the function from the nodes to what they stand for. Each value is kept, since a word may use a node 2^60 times. The node -1, the last one of an empty rope, has the zero value.
func evaluator[V any](r []api.RopeNode, m meaning[V]) func(at int) V {
	known := make(map[int]V, len(r))
	var value func(at int) V
	value = func(at int) V {
		v, ok := known[at]
		if ok || at < 0 {
			return v
		}
		switch node := r[at]; kindOf(node) {
		case leaf:
			v = m.leaf(node.Word)
		case power:
			v = m.power(value(node.Left), node.Times)
		default:
			v = m.join(value(node.Left), value(node.Right))
		}
		known[at] = v
		return v
	}
	return value
}

// measure returns the lengths of the nodes of a rope, or ErrRope unless it is valid.
func measure(r []api.RopeNode) (length func(at int) int, err api.Errno) {
	defer func() {
		if recover() != nil {
			length, err = nil, api.ErrRope
		}
	}()
	mustHold(len(r) <= api.MaxRope)
	length = evaluator(r, meaning[int]{
		leaf: func(w string) int { return len(w) },
		join: func(x, y int) int {
			mustHold(x+y <= api.MaxRopeLen)
			return x + y
		},
		power: func(x, times int) int {
			mustHold(times <= api.MaxRopeLen/x) // the product itself could be too great for an int
			return x * times
		},
	})
	for at, node := range r {
		mustHold(isNode(node, at))
		length(at)
	}
	return length, api.OK
}

// mustHold rejects a rope unless a condition holds.
func mustHold(condition bool) {
	if !condition {
		panic(api.ErrRope)
	}
}

// least returns the smallest of some numbers.
func least[N cmp.Ordered](first N, others ...N) N {
	for _, n := range others {
		if n < first {
			first = n
		}
	}
	return first
}
