package rope

import (
	"maps"
	"math/bits"
	"slices"

	"cayley/api"
	"cayley/word"
)

// squeeze writes the words of two ropes, which are not empty, as one digest each, and returns the book in which these stand.
//
// This is Jez's recompression. Both words are taken as words of digests, which are letters at first. A round makes each run of one digest a new digest; then it splits the digests into left and right ones, and makes each left one with a right one behind it a new digest. What becomes of a digest depends on its neighbours alone, so equal words remain equal, and parts that the words have in common remain so but for their ends. At least a quarter of all neighbours become one, so the number of rounds is that of the digits of the lengths, times a constant.
//
// The words are never expanded: they are kept as rules, one or a few for each node.
func squeeze(a, b []api.RopeNode) (*book, int, int) {
	s := &squeezer{book: newBook()}
	topA, topB := s.write(a), s.write(b)
	s.tops = [2]int{topA, topB}
	for s.joinRuns(); len(s.rules[topA]) > 1 || len(s.rules[topB]) > 1; s.joinRuns() {
		s.joinPairs()
	}
	return s.book, s.rules[topA][0].of, s.rules[topB][0].of
}

// squeezer keeps two words as rules. A rule is a word, as a list of runs of digests and of the numbers of earlier rules, the words of which stand there; these are runs of no copies.
type squeezer struct {
	*book
	rules [][]run
	tops  [2]int // the rules of the two words, which no rule uses
}

// isRule reports whether a part of a rule is another rule.
func isRule(part run) bool {
	return part.times == 0
}

// add adds a rule and returns its number.
func (s *squeezer) add(parts ...run) int {
	s.rules = append(s.rules, parts)
	return len(s.rules) - 1
}

// write adds the rules of a rope and returns the top one.
func (s *squeezer) write(r []api.RopeNode) int {
	rule := evaluator(r, meaning[int]{
		leaf: func(w string) int {
			var parts []run
			for i := range len(w) {
				parts = push(parts, run{word.Index(w[i]), 1})
			}
			return s.add(parts...)
		},
		join:  func(x, y int) int { return s.add(run{of: x}, run{of: y}) },
		power: s.power,
	})
	return s.add(run{of: rule(len(r) - 1)})
}

// power adds rules of powers of a rule, of which each exponent has one more of the binary digits of times, and returns the last one.
func (s *squeezer) power(base, times int) int {
	out := base
	for digit := bits.Len(uint(times)) - 2; digit >= 0; digit-- {
		out = s.add(run{of: out}, run{of: out})
		if times>>digit&1 == 1 {
			s.rules[out] = append(s.rules[out], run{of: base})
		}
	}
	return out
}

// push adds copies of a digest, if any, to a rule: to the copies of the same digest at its end, if there are such.
func push(parts []run, r run) []run {
	if r.times == 0 {
		return parts
	}
	if last := len(parts) - 1; last >= 0 && !isRule(parts[last]) && parts[last].of == r.of {
		parts[last].times += r.times
		return parts
	}
	return append(parts, r)
}

// ends is what a rule gives away in a pass: a run at its first end, and one at its last; no copies where it gives nothing.
type ends [2]run

// pass rewrites all rules, the earlier ones first. What is to be joined must not stand partly in one rule and partly in another: so a rule gives the run at its end (0 or 1) away if gives says so, and it comes to stand beside the rule wherever that is used. A rule that has given everything away is used no longer. What is left of a rule, joined rewrites.
func (s *squeezer) pass(gives func(end int, r run) bool, joined func(parts []run) []run) {
	given := make([]ends, len(s.rules))
	for i, rule := range s.rules {
		parts := s.received(rule, given)
		if i != s.tops[0] && i != s.tops[1] {
			parts = given[i].take(parts, gives)
		}
		s.rules[i] = joined(parts)
	}
}

// received returns a rule with what the rules in it have given away.
func (s *squeezer) received(rule []run, given []ends) []run {
	var out []run
	for _, part := range rule {
		if !isRule(part) {
			out = push(out, part)
			continue
		}
		out = push(out, given[part.of][0])
		if len(s.rules[part.of]) > 0 {
			out = append(out, part)
		}
		out = push(out, given[part.of][1])
	}
	return out
}

// take takes the runs at the ends of a rule that it gives away, and returns the rest of it.
func (e *ends) take(parts []run, gives func(end int, r run) bool) []run {
	if len(parts) > 0 && !isRule(parts[0]) && gives(0, parts[0]) {
		e[0] = parts[0]
		parts = parts[1:]
	}
	if last := len(parts) - 1; last >= 0 && !isRule(parts[last]) && gives(1, parts[last]) {
		e[1] = parts[last]
		parts = parts[:last]
	}
	return parts
}

// joinRuns makes each run one digest.
func (s *squeezer) joinRuns() {
	s.pass(func(int, run) bool { return true }, func(parts []run) []run {
		for i, part := range parts {
			if part.times > 1 {
				parts[i] = run{s.digest(part, run{}), 1}
			}
		}
		return parts
	})
}

// joinPairs makes each left digest with a right one behind it one digest. There are no runs of more than one copy.
func (s *squeezer) joinPairs() {
	isRight := sides(s.neighbours())
	s.pass(func(end int, r run) bool {
		return isRight(r.of) == (end == 0) // only there it can be half of a pair
	}, func(parts []run) []run {
		var out []run
		for i := 0; i < len(parts); i++ {
			part := parts[i]
			if i+1 < len(parts) && !isRule(part) && !isRule(parts[i+1]) && !isRight(part.of) && isRight(parts[i+1].of) {
				i++
				part = run{s.digest(part, parts[i]), 1}
			}
			out = append(out, part)
		}
		return out
	})
}

// neighbours counts how often each two digests stand side by side in the two words. There are no runs of more than one copy.
func (s *squeezer) neighbours() map[[2]int]int {
	uses := s.uses()
	counts := map[[2]int]int{}
	outer := make([][2]int, len(s.rules)) // the first and the last digest of each rule
	digestAt := func(end int, part run) int {
		if isRule(part) {
			return outer[part.of][end]
		}
		return part.of
	}
	for i, rule := range s.rules {
		if len(rule) == 0 {
			continue
		}
		outer[i] = [2]int{digestAt(0, rule[0]), digestAt(1, rule[len(rule)-1])}
		for k, part := range rule[1:] {
			counts[[2]int{digestAt(1, rule[k]), digestAt(0, part)}] += uses[i]
		}
	}
	return counts
}

// uses counts how often each rule is used in the two words.
func (s *squeezer) uses() []int {
	uses := make([]int, len(s.rules))
	for _, top := range s.tops {
		uses[top] = 1
	}
	for i, rule := range slices.Backward(s.rules) {
		for _, part := range rule {
			if isRule(part) {
				uses[part.of] += uses[i]
			}
		}
	}
	return uses
}

// sides splits the digests in two: it returns which ones are right ones. At least a quarter of all neighbours are a left one and a right one in this order: each digest comes to the side where it is parted from at least half of its earlier neighbours, and the sides are named by the order in which more of those that are parted stand.
func sides(counts map[[2]int]int) (isRight func(digest int) bool) {
	earlier := map[int][]run{}
	for pair, count := range counts {
		later := max(pair[0], pair[1])
		earlier[later] = append(earlier[later], run{least(pair[0], pair[1]), count})
	}
	second := map[int]bool{}
	for _, digest := range slices.Sorted(maps.Keys(earlier)) {
		surplus := 0 // of neighbours on the first side
		for _, other := range earlier[digest] {
			if second[other.of] {
				surplus -= other.times
			} else {
				surplus += other.times
			}
		}
		second[digest] = surplus > 0
	}
	forward := 0
	for pair, count := range counts {
		switch {
		case !second[pair[0]] && second[pair[1]]:
			forward += count
		case second[pair[0]] && !second[pair[1]]:
			forward -= count
		}
	}
	return func(digest int) bool { return second[digest] == (forward >= 0) }
}
