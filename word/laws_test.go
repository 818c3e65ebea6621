package word_test

import (
	"math/rand"
	"slices"
	"sort"
	"strings"
	"testing"

	"cayley/api"
	"cayley/word"
)

// matrix is a matrix of two rows. The matrices of a and b generate a free group (Sanov), so that words are equal in the free group exactly if their matrices are: a way to tell that does not reduce.
type matrix [4]int

func (m matrix) times(n matrix) matrix {
	return matrix{m[0]*n[0] + m[1]*n[2], m[0]*n[1] + m[1]*n[3], m[2]*n[0] + m[3]*n[2], m[2]*n[1] + m[3]*n[3]}
}

func matrixOf(w string) matrix {
	m := matrix{1, 0, 0, 1}
	for _, c := range w {
		switch c {
		case 'a':
			m = m.times(matrix{1, 2, 0, 1})
		case 'A':
			m = m.times(matrix{1, -2, 0, 1})
		case 'b':
			m = m.times(matrix{1, 0, 2, 1})
		case 'B':
			m = m.times(matrix{1, 0, -2, 1})
		}
	}
	return m
}

// P1.3: one reduced word for each element, and it is the shortest word of it.
func TestReductionIsUnique(t *testing.T) {
	found := map[matrix]string{}
	for _, w := range wordsUpTo(2, 7) {
		m, reduced := matrixOf(w), word.Reduce(w)
		if first, ok := found[m]; !ok {
			found[m] = w // no shorter word has the matrix
			if reduced != w {
				t.Fatalf("Reduce(%q) = %q, but no shorter word is equal", w, reduced)
			}
		} else if reduced != first {
			t.Fatalf("Reduce(%q) = %q, not %q", w, reduced, first)
		}
	}
	for _, w := range found {
		if word.Reduce(w) != w {
			t.Errorf("Reduce(%q) = %q", w, word.Reduce(w))
		}
	}
}

// P1.3: pairs put in or removed anywhere.
func TestPairsDoNotMatter(t *testing.T) {
	r := rand.New(rand.NewSource(4))
	words := wordsUpTo(2, 4)
	for i := range 200 {
		words = append(words, randomWord(r, 8, i))
	}
	for _, w := range words {
		reduced := word.Reduce(w)
		for i := range len(w) + 1 {
			c := word.Letter(r.Intn(16))
			pair := string(c) + string(c^32)
			if more := w[:i] + pair + w[i:]; word.Reduce(more) != reduced {
				t.Errorf("Reduce(%q) = %q, not %q", more, word.Reduce(more), reduced)
			}
			if i+1 < len(w) && w[i]^w[i+1] == 32 && word.Reduce(w[:i]+w[i+2:]) != reduced {
				t.Errorf("%q without the pair at %d", w, i)
			}
		}
	}
}

// P1.4
func TestGroup(t *testing.T) {
	r := rand.New(rand.NewSource(5))
	for i := range 2000 {
		u, v, w := randomWord(r, 1+i%8, i%30), randomWord(r, 1+i%8, i%23), randomWord(r, 1+i%8, i%17)
		if word.Reduce(word.Reduce(u+v)+w) != word.Reduce(u+word.Reduce(v+w)) {
			t.Errorf("%q, %q, %q: not associative", u, v, w)
		}
		if word.Reduce(word.Reduce(u)+"") != word.Reduce(u) || word.Reduce(u) != slowReduce(u) {
			t.Errorf("%q: the empty word is not neutral", u)
		}
		if word.Reduce(u+word.Inverse(u)) != "" || word.Reduce(word.Inverse(u)+u) != "" || word.Inverse(word.Inverse(u)) != u {
			t.Errorf("%q: no inverse", u)
		}
		if word.Inverse(u+v) != word.Inverse(v)+word.Inverse(u) || word.Inverse(word.Reduce(u+v)) != word.Reduce(word.Inverse(v)+word.Inverse(u)) {
			t.Errorf("%q, %q: the inverse of the product", u, v)
		}
	}
}

// commutingByRoots tells by the roots whether two words commute.
func commutingByRoots(u, v string) bool {
	rootU, nU := word.Root(u)
	rootV, nV := word.Root(v)
	return nU == 0 || nV == 0 || rootU == rootV || rootU == word.Inverse(rootV)
}

// P1.5
func TestCommutingWords(t *testing.T) {
	words := reducedUpTo(2, 4)
	for _, u := range words {
		for _, v := range words {
			commute := matrixOf(u+v) == matrixOf(v+u)
			if commute != commutingByRoots(u, v) {
				t.Errorf("%q, %q: commute %v", u, v, commute)
			}
		}
	}
	for _, x := range [][2]string{{"aA", "b"}, {"caaC", "cAC"}, {"abab", "BABABA"}, {"baaaB", "bBbaaB"}} {
		if !commutingByRoots(x[0], x[1]) {
			t.Error(x)
		}
	}
}

// P1.6
func TestConjugacy(t *testing.T) {
	words := reducedUpTo(2, 4)
	classes := map[matrix]int{} // of the matrices of the words, by conjugation with all words of at most 2 letters, which suffices for words of at most 4
	for i, w := range words {
		for _, x := range words {
			if len(x) <= 2 {
				m := matrixOf(x + w + word.Inverse(x))
				if _, ok := classes[m]; !ok {
					classes[m] = i
				}
			}
		}
	}
	// Words that are joined through a third one have to get the same number: follow the least numbers.
	least := func(i int) int {
		for classes[matrixOf(words[i])] != i {
			i = classes[matrixOf(words[i])]
		}
		return i
	}
	for i, u := range words {
		for j, v := range words {
			conj, is := word.Conjugate(u, v)
			if is != (least(i) == least(j)) || is != (word.Form(u) == word.Form(v)) {
				t.Fatalf("Conjugate(%q, %q) = %q, %v; forms %q, %q", u, v, conj, is, word.Form(u), word.Form(v))
			}
			if is && !conjugates(u, v, conj) || !is && conj != "" {
				t.Fatalf("Conjugate(%q, %q) = %q", u, v, conj)
			}
		}
	}
}

// P1.6: reflexive, symmetric, transitive; and words that are made conjugate are found to be.
func TestConjugacyIsAnEquivalence(t *testing.T) {
	r := rand.New(rand.NewSource(6))
	for i := range 1000 {
		w := randomWord(r, 1+i%4, i%25)
		x, y := randomWord(r, 1+i%4, i%19), randomWord(r, 1+i%4, i%13)
		u, v := x+w+word.Inverse(x), y+w+word.Inverse(y)
		for _, pair := range [][2]string{{w, w}, {u, w}, {w, u}, {v, w}, {u, v}, {v, u}} {
			if c, is := word.Conjugate(pair[0], pair[1]); !is || !conjugates(pair[0], pair[1], c) {
				t.Errorf("Conjugate(%q, %q) = %q, %v", pair[0], pair[1], c, is)
			}
		}
		other := w + "h"
		if _, is := word.Conjugate(u, other); is {
			t.Errorf("Conjugate(%q, %q)", u, other)
		}
	}
}

// P1.7
func TestShortlexIsTotal(t *testing.T) {
	words := wordsUpTo(2, 4) // in shortlex order
	for i, u := range words {
		for j, v := range words {
			want := 0
			if i < j {
				want = -1
			} else if i > j {
				want = 1
			}
			if word.Compare(u, v) != want {
				t.Fatalf("Compare(%q, %q) = %d", u, v, word.Compare(u, v))
			}
		}
	}
	mixed := slices.Clone(words)
	rand.New(rand.NewSource(7)).Shuffle(len(mixed), func(i, j int) { mixed[i], mixed[j] = mixed[j], mixed[i] })
	sort.Slice(mixed, func(i, j int) bool { return word.Compare(mixed[i], mixed[j]) < 0 })
	if !slices.Equal(mixed, words) {
		t.Error("sorting")
	}
}

// P1.7
func TestShortlexIsInvariant(t *testing.T) {
	r := rand.New(rand.NewSource(8))
	for i := range 5000 {
		u, v := randomWord(r, 8, i%9), randomWord(r, 8, (i+r.Intn(2))%9)
		x, y := randomWord(r, 8, i%12), randomWord(r, 8, i%7)
		if word.Compare(x+u+y, x+v+y) != word.Compare(u, v) || word.Compare(v, u) != -word.Compare(u, v) {
			t.Errorf("%q, %q, %q, %q", x, u, v, y)
		}
	}
	pad := strings.Repeat("h", api.MaxWord/2-1)
	if word.Compare(pad+"A"+pad, pad+"b"+pad) != -1 {
		t.Error("long words")
	}
}

// P1.8
func TestReadBack(t *testing.T) {
	words := wordsUpTo(2, 5)
	r := rand.New(rand.NewSource(9))
	for i := range 1000 {
		words = append(words, randomWord(r, 1+i%8, i))
	}
	words = append(words, strings.Repeat("a", api.MaxWord), strings.Repeat("ab", api.MaxWord/4), strings.Repeat("aB", api.MaxWord/4)+strings.Repeat("bA", api.MaxWord/4-10))
	for _, w := range words {
		if len(word.Text(w)) > 100000 {
			continue // longer than an expression may be
		}
		if back, err := word.Parse(8, word.Text(w)); err != api.OK || back != word.Reduce(w) {
			t.Errorf("Parse of %.40q is %.40q, %d", word.Text(w), back, err)
		}
		root, n := word.Root(w)
		if back, err := word.Power(root, n); err != api.OK || back != word.Reduce(w) {
			t.Errorf("%.40q is not the power %d of its root %.40q", w, n, root)
		}
	}
}
