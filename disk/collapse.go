package disk

import (
	"slices"

	"cayley/api"
)

// maxCollapse is how many letters a word and its disk may have to be made into moves.
const maxCollapse = 20000

// ToMoves returns moves that lead from w to the empty word, for a disk of w.
func ToMoves(p api.Presentation, d []api.Cell, w string) ([]api.Move, api.Errno) {
	if err := Proves(p, d, w); err != api.OK {
		return nil, err
	}
	if size(p, d, w) > maxCollapse {
		return nil, api.ErrLimit
	}
	c := collapse{p: p}
	c.read([]byte(w))
	for _, cell := range slices.Backward(simplified(d)) {
		c.undo(cell)
	}
	return c.moves, api.OK
}

// size returns how many letters a word, the conjugators and twice the relators of the cells have together.
func size(p api.Presentation, d []api.Cell, w string) int {
	n := len(w)
	for _, c := range d {
		n += len(c.Conj) + 2*len(p.Rels[c.Rel])
	}
	return n
}

// collapse is the part of a word that has been read, with the moves so far, which have made it freely reduced.
type collapse struct {
	p     api.Presentation
	word  []byte
	moves []api.Move
}

// read goes over the letters that follow in the word, and deletes each pair that they complete.
func (c *collapse) read(letters []byte) {
	for _, letter := range letters {
		last := len(c.word) - 1
		if last >= 0 && c.word[last] == inverseLetter(letter) {
			c.word = c.word[:last]
			c.moves = append(c.moves, api.Move{Kind: api.DeletePair, At: last})
		} else {
			c.word = append(c.word, letter)
		}
	}
}

// undo puts the inverse of a cell behind the word, all of which has been read: the conjugator and its inverse as pairs within each other, and the relator between them.
func (c *collapse) undo(cell api.Cell) {
	conj := []byte(cell.Conj)
	at := len(c.word)
	for _, letter := range conj {
		c.moves = append(c.moves, api.Move{Kind: api.InsertPair, At: at, Letter: indexOf(letter)})
		at++
	}
	c.moves = append(c.moves, api.Move{Kind: api.InsertRel, At: at, Rel: cell.Rel, Inv: !cell.Inv})
	c.read(conj)
	c.read(relator(c.p, cell.Rel, !cell.Inv))
	c.read(inverseOf(conj, inverseLetter))
}
