package disk

import (
	"bytes"
	"slices"

	"cayley/api"
)

// maxMoves is how many moves may be applied one after the other.
const maxMoves = 100000

// Apply applies moves to a word.
func Apply(p api.Presentation, w string, moves []api.Move) (v string, err api.Errno) {
	if err := examineMoves(p, w, moves); err != api.OK {
		return "", err
	}
	defer func() {
		if recover() != nil {
			v, err = "", api.ErrMove
		}
	}()
	k := newWalk(p, w)
	for _, m := range moves {
		k.do(m)
	}
	return string(k.word), api.OK
}

// examineMoves returns the first error of a presentation, a word and the number of moves.
func examineMoves(p api.Presentation, w string, moves []api.Move) api.Errno {
	if err := examine(p, []string{w}); err != api.OK {
		return err
	}
	if len(moves) > maxMoves {
		return api.ErrLimit
	}
	return api.OK
}

// walk is a word that moves change, with the method of each kind of move.
type walk struct {
	p       api.Presentation
	word    []byte
	methods map[int]func(*walk, api.Move)
}

func newWalk(p api.Presentation, w string) *walk {
	return &walk{p, []byte(w), map[int]func(*walk, api.Move){
		api.InsertPair: (*walk).insertPair,
		api.DeletePair: (*walk).deletePair,
		api.InsertRel:  (*walk).insertRel,
		api.DeleteRel:  (*walk).deleteRel,
	}}
}

// do applies a move to the word. It panics if the move does not apply, as do the methods that it calls.
func (k *walk) do(m api.Move) {
	method, isKind := k.methods[m.Kind]
	mustApply(isKind)
	method(k, m)
}

// mustApply leaves a move as one that does not apply unless a condition holds.
func mustApply(condition bool) {
	if !condition {
		panic(api.ErrMove)
	}
}

func (k *walk) insertPair(m api.Move) {
	mustApply(0 <= m.Letter && m.Letter < 2*k.p.Gens)
	letter := letterWith(m.Letter)
	k.insert(m.At, letter, inverseLetter(letter))
}

func (k *walk) deletePair(m api.Move) {
	pair := k.part(m.At, 2)
	mustApply(pair[1] == inverseLetter(pair[0]))
	k.remove(m.At, 2)
}

func (k *walk) insertRel(m api.Move) {
	k.insert(m.At, k.rotated(m)...)
}

func (k *walk) deleteRel(m api.Move) {
	s := k.rotated(m)
	mustApply(bytes.Equal(k.part(m.At, len(s)), s))
	k.remove(m.At, len(s))
}

// rotated returns the relator of a move, or its inverse, rotated to the left.
func (k *walk) rotated(m api.Move) []byte {
	mustApply(isRel(k.p, m.Rel))
	t := relator(k.p, m.Rel, m.Inv)
	mustApply(0 <= m.Shift && m.Shift < len(t))
	return slices.Concat(t[m.Shift:], t[:m.Shift])
}

// part returns the n letters of the word that begin at an index.
func (k *walk) part(at, n int) []byte {
	mustApply(0 <= at && at <= len(k.word)-n)
	return k.word[at : at+n]
}

func (k *walk) insert(at int, letters ...byte) {
	mustApply(0 <= at && at <= len(k.word) && len(k.word)+len(letters) <= api.MaxWord)
	k.word = slices.Insert(k.word, at, letters...)
}

func (k *walk) remove(at, n int) {
	k.word = slices.Delete(k.word, at, at+n)
}
