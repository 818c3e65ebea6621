package pair

import (
	"slices"

	"cayley/api"
)

// maxLetters is the greatest number of letters.
const maxLetters = 16

// letters is the number of letters. It is the padding, too.
type letters int

// tape tells which word of a pair has ended.
type tape int8

const (
	neither tape = iota
	theFirst
	theSecond
)

func (n letters) pad() int {
	return int(n)
}

// symbols returns the number of pair symbols. It would be the symbol of two paddings.
func (n letters) symbols() int {
	return n.symbol(n.pad(), n.pad())
}

func (n letters) symbol(x, y int) int {
	return x*int(n+1) + y
}

func (n letters) parts(symbol int) (x, y int) {
	return symbol / int(n+1), symbol % int(n+1)
}

// after returns which word has ended behind a symbol, and whether a code goes on by it.
func (n letters) after(ended tape, symbol int) (tape, bool) {
	now := neither
	if x, y := n.parts(symbol); x == n.pad() {
		now = theFirst
	} else if y == n.pad() {
		now = theSecond
	}
	return now, ended == neither || ended == now
}

// by returns, of the arcs of a state, those with this letter first in their symbols.
func (n letters) by(arcs []arc, x int) []arc {
	from, to := n.ahead(arcs, x), n.ahead(arcs, x+1)
	return arcs[from:to]
}

// ahead returns how many of the arcs of a state are ahead of those by a letter.
func (n letters) ahead(arcs []arc, x int) int {
	at, _ := slices.BinarySearchFunc(arcs, n.symbol(x, 0), func(a arc, symbol int) int { return int(a.symbol) - symbol })
	return at
}

// at returns the letter of a word at a position, or the padding behind its end.
func (n letters) at(w []int, i int) int {
	if i < len(w) {
		return w[i]
	}
	return n.pad()
}

// code returns the code of two words.
func (n letters) code(u, v []int) []int {
	out := make([]int, max(len(u), len(v)))
	for i := range out {
		out[i] = n.symbol(n.at(u, i), n.at(v, i))
	}
	return out
}

// decode returns the words with a code, and whether it is one.
func (n letters) decode(symbols []int) (u, v []int, is bool) {
	if len(symbols) > api.MaxWord {
		return nil, nil, false
	}
	ended := neither
	for _, symbol := range symbols {
		if symbol < 0 || symbol >= n.symbols() {
			return nil, nil, false
		}
		if ended, is = n.after(ended, symbol); !is {
			return nil, nil, false
		}
		x, y := n.parts(symbol)
		if ended != theFirst {
			u = append(u, x)
		}
		if ended != theSecond {
			v = append(v, y)
		}
	}
	return u, v, true
}

// text writes a word with one byte for each letter.
func text(w []int) string {
	out := make([]byte, len(w))
	for i, letter := range w {
		out[i] = "aA"[letter%2] + byte(letter/2)
	}
	return string(out)
}
