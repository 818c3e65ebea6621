package lang

import (
	"slices"

	"cayley/api"
)

// trie is the tree of the prefixes of some factors: its states. It becomes the automaton of the words that contain none of them; a state then stands for the longest prefix in which a word ends.
type trie struct {
	api.Automaton
	states map[[2]int]int // by the state ahead of a prefix's last symbol, and this symbol
}

// newTrie returns the trie of no factors.
func newTrie(symbols int) *trie {
	t := &trie{api.Automaton{Symbols: symbols}, map[[2]int]int{}}
	t.open()
	return t
}

// open returns a new state.
func (t *trie) open() int {
	t.Accept = append(t.Accept, true)
	t.Next = append(t.Next, slices.Repeat([]int{nowhere}, t.Symbols))
	return len(t.Next) - 1
}

// add adds a factor.
func (t *trie) add(factor []int) {
	s := t.Start
	for _, symbol := range factor {
		key := [2]int{s, symbol}
		to, met := t.states[key]
		if !met {
			to = t.open()
			t.states[key] = to
		}
		s = to
	}
	t.Accept[s] = false
}

// link fills in where words lead, prefixes from the shortest one on: a symbol that does not prolong a prefix leads where it leads from the longest other one in which the prefix ends. From a factor on words lead nowhere, since no longer word avoids it.
func (t *trie) link() {
	end := make([]int, len(t.Next)) // of each prefix: the longest other one in which it ends
	reached := []int{t.Start}
	for i := 0; i < len(reached); i++ {
		s := reached[i]
		t.Accept[s] = t.Accept[s] && t.Accept[end[s]]
		if !t.Accept[s] {
			continue
		}
		for symbol := range t.Symbols {
			to := t.Start
			if s != t.Start {
				to = t.Next[end[s]][symbol]
			}
			if longer, met := t.states[[2]int{s, symbol}]; met {
				end[longer] = to
				reached = append(reached, longer)
				to = longer
			}
			t.Next[s][symbol] = to
		}
	}
}
