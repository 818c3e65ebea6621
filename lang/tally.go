package lang

import (
	"iter"
	"math/bits"

	"cayley/api"
)

// tooMany stands for all numbers above MaxCount. What tooMany is added to, or multiplied by, other than 0, is tooMany: so numbers are exact up to MaxCount also where greater ones have come up on the way.
const tooMany = api.MaxCount + 1

// fit returns a number that is not too great: others leave by a panic.
func fit(n int) int {
	if n >= tooMany {
		panic("a number is too great")
	}
	return n
}

// within returns what is computed, or ErrLimit if a number is too great.
func within[T any](compute func() T) (result T, err api.Errno) {
	defer func() {
		if recover() != nil {
			var none T
			result, err = none, api.ErrLimit
		}
	}()
	return compute(), api.OK
}

// tally has for each state how many words of one length lead from it to acceptance.
type tally []int

// of returns the number of a state; it is 0 for nowhere, and if there are no states.
func (t tally) of(s int) int {
	if s < 0 || s >= len(t) {
		return 0
	}
	return t[s]
}

// first returns the tally of the empty word.
func (l language) first() tally {
	t := make(tally, len(l.Accept))
	for s, accepts := range l.Accept {
		if accepts {
			t[s] = 1
		}
	}
	return t
}

// arc leads to a state by so many symbols.
type arc struct{ to, times int32 }

// arcs returns the arcs that leave each state.
func (l language) arcs() [][]arc {
	out := make([][]arc, len(l.Next))
	place := make([]int, len(l.Next)) // where the arc to a state is, if there is one
	for s, row := range l.Next {
		for _, to := range row {
			if to == nowhere {
				continue
			}
			if at := place[to]; at < len(out[s]) && out[s][at].to == int32(to) {
				out[s][at].times++
				continue
			}
			place[to] = len(out[s])
			out[s] = append(out[s], arc{int32(to), 1})
		}
	}
	return out
}

// longer returns the number of a state, from the tally of words with one symbol less.
func (t tally) longer(leaving []arc) int {
	var high, low, carry uint64 // 400 numbers may add up to more than 64 bits
	for _, x := range leaving {
		h, l := bits.Mul64(uint64(t[x.to]), uint64(x.times))
		low, carry = bits.Add64(low, l, 0)
		high += h + carry
	}
	if high > 0 || low >= tooMany {
		return tooMany
	}
	return int(low)
}

// lengths yields the lengths from 0 to most, each with its tally, which is new memory.
func (l language) lengths(most int) iter.Seq2[int, tally] {
	return func(yield func(int, tally) bool) {
		arcs := l.arcs()
		t := l.first()
		for n := 0; n <= most; n++ {
			if n > 0 {
				next := make(tally, len(t))
				for s, leaving := range arcs {
					next[s] = t.longer(leaving)
				}
				t = next
			}
			if !yield(n, t) {
				return
			}
		}
	}
}

// counts returns the numbers of words of the lengths from 0 to n.
func (l language) counts(n int) []int {
	var out []int
	for _, t := range l.lengths(n) {
		out = append(out, fit(t.of(l.Start)))
	}
	return out
}

// rank returns the number of words ahead of a word: shorter ones, and those of its length that have its first symbols up to some place, and there a smaller one.
func (l language) rank(w []int) int {
	rank := 0
	path := l.path(w)
	for n, t := range l.lengths(len(w) - 1) {
		rank = fit(rank + t.of(l.Start))
		at := len(w) - 1 - n
		if path[at] == nowhere {
			continue
		}
		for _, to := range l.Next[path[at]][:w[at]] {
			rank = fit(rank + t.of(to))
		}
	}
	return rank
}

// unrank returns the word with a rank, if there is one.
func (l language) unrank(rank int) ([]int, api.Errno) {
	var shorter []tally
	for _, t := range l.lengths(api.MaxLength) {
		if rank < t.of(l.Start) {
			return l.spell(shorter, rank), api.OK
		}
		rank -= t.of(l.Start)
		shorter = append(shorter, t)
	}
	return nil, api.ErrLimit
}

// spell returns the word that has a rank among those of its length, from the tallies of all shorter lengths.
func (l language) spell(shorter []tally, rank int) []int {
	w := make([]int, len(shorter))
	s := l.Start
	for i := range w {
		t := shorter[len(w)-1-i]
		for rank >= t.of(l.Next[s][w[i]]) {
			rank -= t.of(l.Next[s][w[i]])
			w[i]++
		}
		s = l.Next[s][w[i]]
	}
	return w
}
