package rope

import "cayley/api"

// letters is how many digests are letters.
const letters = 2 * api.MaxGens

// run is a number of copies of the word of a digest.
type run struct {
	of    int
	times int
}

// book gives numbers to words, their digests, and keeps how each word is made: no two words have the same digest. Digests of letters are their indices; each later one is a run of an earlier digest, followed by another run, which may have no copies.
type book struct {
	made    [][2]run
	lengths []int
	known   map[[2]run]int
}

func newBook() *book {
	b := &book{made: make([][2]run, letters), lengths: make([]int, letters), known: map[[2]run]int{}}
	for i := range b.lengths {
		b.lengths[i] = 1
	}
	return b
}

func (b *book) isLetter(digest int) bool {
	return digest < letters
}

// digest returns the number of the word that is made of two runs.
func (b *book) digest(first, second run) int {
	made := [2]run{first, second}
	digest, ok := b.known[made]
	if !ok {
		digest = len(b.made)
		b.known[made] = digest
		b.made = append(b.made, made)
		b.lengths = append(b.lengths, b.length(first)+b.length(second))
	}
	return digest
}

// length returns the number of letters of a run.
func (b *book) length(r run) int {
	return r.times * b.lengths[r.of]
}

// open replaces one copy in the next run of what is left of a word, which stands at the end, by the runs that it is made of.
func (b *book) open(rest []run) []run {
	made := b.made[rest[len(rest)-1].of]
	rest = drop(rest, 1)
	if made[1].times > 0 {
		rest = append(rest, made[1])
	}
	return append(rest, made[0])
}
