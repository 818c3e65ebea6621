package fsa_test

import (
	"testing"

	"cayley/api"
	"cayley/fsa"
)

// everything returns a circle of one symbol all of whose states accept.
func everything(n int) api.Automaton {
	a := ring(n)
	for s := range a.Accept {
		a.Accept[s] = true
	}
	return a
}

// P6.2: 100000 pairs of states may be reached, and no more: of states of leading nowhere, too.
func TestCombineLimit(t *testing.T) {
	a, err := fsa.Combine(everything(32), ring(3125, 5), api.FsaAnd)
	mustBe(t, "32 times 3125", a, err, ring(3125, 5))
	for _, how := range hows {
		a, err = fsa.Combine(everything(11), ring(9091, 5), how)
		mustFail(t, "11 times 9091", a, err, api.ErrLimit)
	}
	a, err = fsa.Combine(column(everything(31), nowhere), column(ring(3125, 5), stay), api.FsaAnd)
	mustBe(t, "31 and nowhere, times 3125", a, err, column(ring(3125, 5), nowhere))
	a, err = fsa.Combine(column(everything(10), nowhere), column(ring(9091, 5), stay), api.FsaAnd)
	mustFail(t, "10 and nowhere, times 9091", a, err, api.ErrLimit)
	a, err = fsa.Combine(column(ring(3125, 5), stay), column(everything(31), nowhere), api.FsaAnd)
	mustBe(t, "3125 times 31 and nowhere", a, err, column(ring(3125, 5), nowhere))
	a, err = fsa.Combine(column(everything(32), nowhere), column(ring(3125, 5), nowhere), api.FsaAnd)
	mustFail(t, "32 times 3125, and twice nowhere", a, err, api.ErrLimit)
}

// P6.2: 20000 states may be returned, and no more.
func TestStatesLimit(t *testing.T) {
	a, err := fsa.Combine(ring(141, 0), ring(142, 0), api.FsaXor)
	mustFail(t, "Combine", a, err, api.ErrLimit)
	a, err = fsa.Combine(ring(125, 0), ring(128, 0), api.FsaXor)
	if must(t, "Combine", a, err); len(a.Next) != 16000 {
		t.Error("Combine", len(a.Next))
	}
	a, err = fsa.Complement(chain(19998))
	if must(t, "Complement", a, err); len(a.Next) != 20000 {
		t.Error("Complement", len(a.Next))
	}
	a, err = fsa.Complement(chain(19999))
	mustFail(t, "Complement", a, err, api.ErrLimit)
	a, err = fsa.Complement(ring(20000, 0))
	if must(t, "Complement of a circle", a, err); len(a.Next) != 20000 {
		t.Error("Complement of a circle", len(a.Next))
	}
	a, err = fsa.Concat(chain(10000), chain(9999))
	mustBe(t, "Concat", a, err, chain(19999))
	a, err = fsa.Concat(chain(10000), chain(10000))
	mustFail(t, "Concat", a, err, api.ErrLimit)
	a, err = fsa.Star(chain(140, 141))
	if must(t, "Star", a, err); len(a.Next) != 139*140+1 { // from 139*140 on all lengths are sums of 140 and 141
		t.Error("Star", len(a.Next))
	}
	a, err = fsa.Star(chain(150, 151))
	mustFail(t, "Star", a, err, api.ErrLimit)
	a, err = fsa.Reverse(chain(19999))
	mustBe(t, "Reverse", a, err, chain(19999))
	a, err = fsa.Reverse(nth(14))
	if must(t, "Reverse", a, err); len(a.Next) != 1<<14 {
		t.Error("Reverse", len(a.Next))
	}
	a, err = fsa.Reverse(nth(15))
	mustFail(t, "Reverse", a, err, api.ErrLimit)
}

// nth returns the automaton of the words of two symbols whose symbol number n is 0. The last symbols of a word are to be kept if it is read in reverse.
func nth(n int) api.Automaton {
	a := api.Automaton{Symbols: 2, Accept: make([]bool, n+1)}
	for s := range n - 1 {
		a.Next = append(a.Next, []int{s + 1, s + 1})
	}
	a.Next = append(a.Next, []int{n, -1}, []int{n, n})
	a.Accept[n] = true
	return a
}

// P6.2: 100000 sets may be reached, and no more; the empty one counts.
func TestSetsLimit(t *testing.T) {
	// A word of n + 1 symbols leads to the state n of a circle of 9 in the first automaton, and to n + 1 in one of 11111, which begins behind the empty word.
	first := beside(auto(1, "1", []int{1}), ring(9))
	a, err := fsa.Concat(first, ring(11111, 3))
	mustBe(t, "Concat, 1 + 9 * 11111 sets", a, err, ring(11111, 3))
	a, err = fsa.Concat(column(first, nowhere), column(ring(11111, 3), nowhere))
	mustFail(t, "Concat, 2 + 9 * 11111 sets", a, err, api.ErrLimit)
	first = beside(auto(1, "1", []int{1}), ring(32))
	a, err = fsa.Concat(first, ring(3125, 3))
	mustFail(t, "Concat, 1 + 32 * 3125 sets", a, err, api.ErrLimit)

	// All states count: here those of the circle that no word leads to from the start, too.
	a, err = fsa.Reverse(beside(ring(32, 4), ring(3125, 5)))
	mustBe(t, "Reverse, 32 * 3125 sets", a, err, ring(32, 4))
	a, err = fsa.Reverse(beside(ring(11, 4), ring(9091, 5)))
	mustFail(t, "Reverse, 11 * 9091 sets", a, err, api.ErrLimit)
	a, err = fsa.Reverse(column(beside(ring(32, 4), ring(3125, 5)), nowhere))
	mustFail(t, "Reverse, 32 * 3125 + 1 sets", a, err, api.ErrLimit)

	a, err = fsa.Star(twoCircles(2))
	mustBe(t, "Star, 100000 sets", a, err, auto(2, "1", []int{-1, 0}))
	a, err = fsa.Star(twoCircles(3))
	mustFail(t, "Star, 100001 sets", a, err, api.ErrLimit)

	// Sets count once, by whatever ways they are reached: here 316 * 316 pairs, and a state that accepts all words.
	a, err = fsa.Reverse(exchange(316))
	mustBe(t, "Reverse, 316 * 316 sets", a, err, all())
	a, err = fsa.Reverse(exchange(317))
	mustFail(t, "Reverse, 317 * 317 sets", a, err, api.ErrLimit)

	for _, n := range []int{20, 60} {
		a, err = fsa.Reverse(nth(n))
		mustFail(t, "Reverse", a, err, api.ErrLimit)
	}
}

// exchange returns an automaton of all words, and beside it two circles of n states: the symbol 0 goes on in the first one, the symbol 1 leads from each to the other one.
func exchange(n int) api.Automaton {
	a := auto(2, "1", []int{0, 0})
	for s := range n {
		a.Next = append(a.Next, []int{1 + (s+1)%n, 1 + n + s})
		a.Accept = append(a.Accept, s == 0)
	}
	for s := range n {
		a.Next = append(a.Next, []int{1 + n + s, 1 + s})
		a.Accept = append(a.Accept, s == 0)
	}
	return a
}

// twoCircles returns an automaton of the word 1, of which Star follows two circles at the same time. Its sets: that of the start; that of the start and of 1, behind the symbol 1; behind the symbol 0 then, 5263 * 18 of states of both circles; behind the symbol 0 alone, 5263 of states of one; none; and a state of its own behind the symbol 2, if there is that.
func twoCircles(symbols int) api.Automaton {
	a := api.Automaton{Symbols: symbols, Accept: make([]bool, 3)}
	a.Accept[1] = true
	a.Next = [][]int{{3, 1, 2}, {3 + 5263, -1, -1}, {-1, -1, -1}}
	for _, n := range []int{5263, 18} {
		base := len(a.Next)
		for s := range n {
			a.Next = append(a.Next, []int{base + (s+1)%n, -1, -1})
			a.Accept = append(a.Accept, false)
		}
	}
	for s := range a.Next {
		a.Next[s] = a.Next[s][:symbols]
	}
	return a
}

// P6.2: the words of a list may have 100000 symbols, and their automaton 20000 states.
func TestWordsLimit(t *testing.T) {
	long := make([]int, 20000)
	a, err := fsa.Words(1, [][]int{long[:19999]})
	mustBe(t, "one word", a, err, chain(19999))
	a, err = fsa.Words(1, [][]int{long})
	mustFail(t, "a word of 20000 symbols", a, err, api.ErrLimit)

	var l [][]int // 400 words of 250 symbols, which differ in the first one
	for x := range 400 {
		w := make([]int, 250)
		w[0] = x
		l = append(l, w)
	}
	a, err = fsa.Words(400, l)
	if must(t, "400 words", a, err); len(a.Next) != 251 || !fsa.Accepts(a, l[399]) || fsa.Accepts(a, l[399][:249]) {
		t.Error("400 words", len(a.Next))
	}
	a, err = fsa.Words(400, append(l, []int{}, []int{}))
	if must(t, "and the empty word", a, err); len(a.Next) != 251 || !fsa.Accepts(a, nil) {
		t.Error("and the empty word", len(a.Next))
	}
	a, err = fsa.Words(400, append(l, []int{0}))
	mustFail(t, "100001 symbols", a, err, api.ErrLimit)
}
