package disk

import (
	"slices"

	"cayley/api"
)

// FromMoves returns a disk of w v^-1, where v is what the moves make of w.
func FromMoves(p api.Presentation, w string, moves []api.Move) (d []api.Cell, err api.Errno) {
	if err := examineMoves(p, w, moves); err != api.OK {
		return nil, err
	}
	defer func() {
		if recover() != nil {
			d, err = nil, api.ErrMove
		}
	}()
	k := newWalk(p, w)
	var r record
	for _, m := range moves {
		r.retreat(k.word, m.At)
		k.do(m)
		if isRelMove(m) {
			r.add(k, m)
		}
	}
	if r.isOver() {
		return nil, api.ErrLimit
	}
	return r.cells, api.OK
}

// isRelMove reports whether a move inserts or deletes a relator.
func isRelMove(m api.Move) bool {
	return m.Kind == api.InsertRel || m.Kind == api.DeleteRel
}

// record collects the cells of moves. Once they are too many letters for a disk they are only counted, since a later move that does not apply counts ahead of that.
type record struct {
	front
	cells   []api.Cell
	letters int // of all Conj
}

// isOver reports whether the cells have more letters than a disk may have. There are never too many cells, since there are no more than moves.
func (r *record) isOver() bool {
	return r.letters > api.MaxConj
}

// add puts the cell of a move behind the others. The move has been applied, which has not changed the letters ahead of it.
func (r *record) add(k *walk, m api.Move) {
	if r.isOver() {
		return
	}
	r.seek(k.word, m.At)
	t := relator(k.p, m.Rel, m.Inv)
	conj := appendReduced(slices.Clone(r.reduced), inverseOf(t[:m.Shift], inverseLetter), inverseLetter)
	r.letters += len(conj)
	r.cells = append(r.cells, api.Cell{Conj: string(conj), Rel: m.Rel, Inv: m.Inv != (m.Kind == api.InsertRel)})
}

// front is the free reduction of the first letters of a word. It goes from one place to another instead of beginning anew for each, since most moves are near the ones ahead of them.
type front struct {
	at      int // how many letters
	reduced []byte
}

// seek changes the front to that of another number of letters.
func (f *front) seek(word []byte, at int) {
	if at < f.at {
		f.reduced = appendReduced(f.reduced, inverseOf(word[at:f.at], inverseLetter), inverseLetter)
	} else {
		f.reduced = appendReduced(f.reduced, word[f.at:at], inverseLetter)
	}
	f.at = at
}

// retreat goes back to a place ahead of which the word does not change, if the front is beyond it. (The place may be that of a move that does not apply.)
func (f *front) retreat(word []byte, at int) {
	if at = max(at, 0); at < f.at {
		f.seek(word, at)
	}
}
