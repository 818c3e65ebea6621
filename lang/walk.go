package lang

import (
	"slices"

	"cayley/api"
)

const (
	fresh = -1 // a state that has not been met
	left  = -2 // a state that has been left for good
)

// walk goes through the states of a language depth first, until it comes back to a state on its way.
type walk struct {
	language
	ahead   []int // of each state on the way: the number of symbols ahead of it; otherwise fresh or left
	way     []int // symbols from the start on
	done    []int // the states that have been left, each one behind all those to which it leads
	endless bool  // whether the way came back: so words are accepted that are as long as one likes
	base    int   // the state to which it came back
}

// walk walks through the language.
func (l language) walk() *walk {
	w := &walk{language: l, ahead: slices.Repeat([]int{fresh}, len(l.Next))}
	w.endless = !l.isEmpty() && w.loops(l.Start)
	return w
}

// loops goes on from a state that is fresh, and reports whether the way comes back: it ends there.
func (w *walk) loops(s int) bool {
	w.ahead[s] = len(w.way)
	for symbol, to := range w.Next[s] {
		if to == nowhere || w.ahead[to] == left {
			continue
		}
		w.way = append(w.way, symbol)
		if w.ahead[to] != fresh {
			w.base = to
			return true
		}
		if w.loops(to) {
			return true
		}
		w.way = w.way[:len(w.way)-1]
	}
	w.ahead[s] = left
	w.done = append(w.done, s)
	return false
}

// parts returns the words that lead to the base of the loop, and around it.
func (w *walk) parts() (there, around []int) {
	at := w.ahead[w.base]
	return slices.Clone(w.way[:at]), slices.Clone(w.way[at:])
}

// size returns the number of words, and whether it is finite.
func (w *walk) size() (n int, finite bool, err api.Errno) {
	if w.endless {
		return 0, false, api.OK
	}
	n, err = within(w.total)
	return n, err == api.OK, err
}

// total returns the number of words, without a loop. (From no state are there more than from the start.)
func (w *walk) total() int {
	t := w.first()
	for _, s := range w.done {
		for _, to := range w.Next[s] {
			t[s] = fit(t[s] + t.of(to))
		}
	}
	return t.of(w.Start)
}

// longest returns the length of the longest word of a language with words, or -1 if there is a loop.
func (w *walk) longest() int {
	if w.endless {
		return -1
	}
	most := make([]int, len(w.Next))
	for _, s := range w.done {
		for _, to := range w.Next[s] {
			if to != nowhere {
				most[s] = max(most[s], most[to]+1)
			}
		}
	}
	return most[w.Start]
}
