package pair_test

import (
	"slices"
	"testing"

	"cayley/api"
	"cayley/pair"
)

// word writes a word as a witness does.
func word(w []int) string {
	out := ""
	for _, x := range w {
		out += string("aAbBcCdDeEfFgGhH"[x])
	}
	return out
}

func mustWitness(t *testing.T, name string, n int, a api.Automaton, u, v, w string) {
	t.Helper()
	want := api.PairWitness{U: u, V: v, W: w}
	if is, got, err := pair.Function(n, a); err != api.OK || is || got != want {
		t.Errorf("Function of %s: %v, %s, %d, not %s", name, is, brief(got), err, brief(want))
	}
}

func mustBeFunction(t *testing.T, name string, n int, a api.Automaton) {
	t.Helper()
	if is, w, err := pair.Function(n, a); err != api.OK || !is || w != (api.PairWitness{}) {
		t.Errorf("Function of %s: %v, %s, %d", name, is, brief(w), err)
	}
}

// P8.4: the chapter's example, and others.
func TestFunction(t *testing.T) {
	a, A := []int{0}, []int{1}
	mustWitness(t, "the chapter's", 2, relation(t, 2, join(a, a), join(a, A)), "a", "a", "A")
	mustBeFunction(t, "no states", 2, none(8))
	mustBeFunction(t, "no acceptance", 2, auto(8, "0", make([]int, 8)))
	mustBeFunction(t, "one image for two words", 2, relation(t, 2, join(a, A), join(A, A), join(nil, A)))
	mustBeFunction(t, "the converse of one with two images, and an empty word", 2, relation(t, 2, join(nil, nil), join([]int{0, 1}, a)))
	mustWitness(t, "all pairs", 2, all(8), "", "", "a")
	mustWitness(t, "all pairs of one letter", 1, all(3), "", "", "a")
	mustWitness(t, "an empty word and two", 2, relation(t, 2, join(nil, []int{1, 1}), join(nil, []int{0, 1, 0})), "", "AA", "aAa")
	mustWitness(t, "an image that is a prefix of another one", 2, relation(t, 2, join(A, []int{1, 1}), join(A, []int{1, 1, 0})), "A", "AA", "AAa")
	mustWitness(t, "an image that ends sooner", 2, relation(t, 2, join([]int{1, 1, 1}, a), join([]int{1, 1, 1}, []int{0, 1, 1}), join([]int{1, 1, 1}, []int{0, 0, 1})), "AAA", "a", "aaA")
	mustWitness(t, "three images", 2, relation(t, 2, join(a, []int{1, 1, 0}), join(a, []int{1, 0, 0}), join(a, []int{1, 1})), "a", "AA", "Aaa")
	mustWitness(t, "a later word that is shorter", 2, relation(t, 2, join([]int{0, 0}, a), join([]int{0, 0}, A), join(A, nil), join(A, A)), "A", "", "A")
	mustWitness(t, "four letters", 4, relation(t, 4, join([]int{3, 2}, []int{2}), join([]int{3, 2}, []int{3, 3})), "Bb", "b", "BB")

	// Words of no code do not matter.
	b := relation(t, 2, join(A, a))
	b.Next[0][2] = 0 // A letter of the first word alone leads back to the start: what follows is no code.
	mustBeFunction(t, "no code", 2, b)

	// All images of a word grow behind it, and there is just one way to end.
	tail := blank(3, 8)
	tail.Next[0] = []int{0, -1, -1, -1, 0, -1, 1, -1}
	tail.Next[1][6], tail.Next[1][7] = 1, 2
	tail.Accept[2] = true
	mustWitness(t, "a tail", 2, tail, "", "aA", "aaA")
}

// P8.4: a witness may be long: here images are those of lengths which are multiples of 7 and of 9, and differ in their first letter.
func TestFunctionLong(t *testing.T) {
	for _, m := range [][2]int{{7, 9}, {100, 101}} {
		a := twoRings(m[0], m[1], 0, 0)
		u := make([]int, m[0]*m[1])
		mustWitness(t, "two rings", 2, a, word(u), "a", "A")
		mustBeFunction(t, "two rings with other ends", 2, twoRings(m[0], m[1], 0, 1))
	}
	mustBeFunction(t, "larger rings", 2, twoRings(700, 701, 1, 0)) // nearly half a million couples of states
}

// twoRings returns the pairs of (u, 0) for which the length of u is a multiple of m, and its last letter is last, and of (u, 1) likewise with another number, and another letter.
func twoRings(m0, m1, last0, last1 int) api.Automaton {
	a := blank(1+2*m0+2*m1, 8)
	m, base := []int{m0, m1}, []int{1, 1 + 2*m0}
	for x := range 2 {
		for y := range 2 {
			a.Next[0][symbol(2, x, y)] = base[y] + 1%m[y]*2 + x
			for i := range 2 * m[y] {
				a.Next[base[y]+i][symbol(2, x, 2)] = base[y] + (i/2+1)%m[y]*2 + x
			}
		}
	}
	a.Accept[base[0]+last0], a.Accept[base[1]+last1] = true, true
	return a
}

// P8.4: functions, against the images of short words, and against the composition with the converse: that is contained in the diagonal exactly for functions.
func TestFunctionSamples(t *testing.T) {
	witnesses, functions := 0, 0
	for n, a := range samples(91, 1000) {
		name := brief(a)
		is, w, err := pair.Function(n, a)
		if err != api.OK || is && w != (api.PairWitness{}) {
			t.Fatalf("Function of %s: %v, %v, %d", name, is, w, err)
		}
		converse, err := pair.Converse(n, a)
		square, err2 := pair.Compose(n, converse, a)
		diagonal, err3 := pair.Diagonal(n, all(n))
		more, err4 := pair.Combine(n, api.FsaMinus, square, diagonal)
		beyond := err2 == api.ErrLimit // then the fourth construction has no arguments
		if !beyond && (slices.Max([]api.Errno{err, err2, err3, err4}) != api.OK || is != (len(more.Next) == 0)) {
			t.Fatalf("Function of %s: %v, but beside the diagonal there is %v", name, is, more)
		}
		longest := depth(n)
		if !is {
			witnesses++
			longest = len(w.U)
		} else {
			functions++
		}
		if longest > depth(n)+1 {
			continue
		}
		for u := range words(n, longest) {
			l := images(n, a, u, 2, len(u)+2*len(a.Next))
			if !is && word(u) == w.U {
				if len(l) < 2 || word(l[0]) != w.V || word(l[1]) != w.W {
					t.Fatalf("Function of %s: %v, but the images are %v", name, w, l)
				}
				break
			}
			if len(l) > 1 {
				t.Fatalf("Function of %s: %v, %v, but %v has %v", name, is, w, u, l)
			}
		}
	}
	if witnesses < 1000 || functions < 1000 {
		t.Error(witnesses, functions)
	}
}

// P8.1: the chapter's example of images, and others.
func TestImage(t *testing.T) {
	a, A := []int{0}, []int{1}
	r := relation(t, 2, join(a, []int{0, 1}), join(a, A), join(A, []int{1, 1, 1}), join(A, []int{1, 1, 0}), join([]int{1, 1, 1}, []int{1, 0}), join([]int{1, 1, 1}, []int{0, 1}), join([]int{1, 0}, nil))
	for _, x := range []struct {
		u, v []int
		is   bool
	}{{a, A, true}, {A, []int{1, 1, 0}, true}, {[]int{1, 1, 1}, []int{0, 1}, true}, {[]int{1, 0}, nil, true}, {nil, nil, false}, {[]int{1, 1}, nil, false}, {[]int{1, 1, 1, 0}, nil, false}} {
		if v, is, err := pair.Image(2, r, x.u); err != api.OK || is != x.is || !slices.Equal(v, x.v) {
			t.Errorf("Image of %v: %v, %v, %d", x.u, v, is, err)
		}
	}
	if v, is, err := pair.Image(2, none(8), a); err != api.OK || is || v != nil {
		t.Errorf("Image without states: %v, %v, %d", v, is, err)
	}
	// Letters of the image may follow behind the word, in circles.
	b := blank(5, 3)
	b.Next[0][0] = 0
	b.Next[0][2], b.Next[1][2], b.Next[2][2], b.Next[3][2] = 1, 2, 3, 1
	b.Accept[3] = true
	if v, is, err := pair.Image(1, b, make([]int, 600)); err != api.OK || !is || len(v) != 603 {
		t.Errorf("Image with a tail: %d letters, %v, %d", len(v), is, err)
	}
	b.Accept[3] = false
	if v, is, err := pair.Image(1, b, make([]int, 600)); err != api.OK || is || v != nil {
		t.Errorf("Image with a circle: %v, %v, %d", v, is, err)
	}
}

// P8.1: images of short words, against all words.
func TestImageSamples(t *testing.T) {
	for n, a := range samples(92, 2000) {
		for u := range words(n, depth(n)+1) {
			l := images(n, a, u, 1, len(u)+len(a.Next))
			v, is, err := pair.Image(n, a, u)
			if err != api.OK || is != (len(l) > 0) || is && !slices.Equal(v, l[0]) || !is && v != nil {
				t.Fatalf("Image of %v in %s: %v, %v, %d, not %v", u, brief(a), v, is, err, l)
			}
		}
	}
}

// P8.1: images of long words, which are found in several parts: here the sum of the letters of u and v is even at all positions that are multiples of three, and v ends at most at one of these.
func TestImageLong(t *testing.T) {
	a := blank(4, 8)
	for s := range 3 {
		for x := range 2 {
			for y := range 2 {
				if s > 0 || x == y {
					a.Next[s][symbol(2, x, y)] = (s + 1) % 3
				}
			}
		}
	}
	a.Accept[0] = true
	u := make([]int, 3000)
	want := make([]int, 3000)
	for i := range u {
		u[i] = i / 7 % 2
		if i%3 == 0 {
			want[i] = u[i]
		}
	}
	if v, is, err := pair.Image(2, a, u); err != api.OK || !is || !slices.Equal(v, want) {
		t.Errorf("Image: %v, %v, %d", brief(v), is, err)
	}
	// Now v may end, if the letters 1 1 1 of u follow, which they do first behind 1206 letters, and what comes then is free.
	a.Accept[0] = false
	a.Next[0][symbol(2, 1, 2)] = 3
	b := blank(8, 8)
	copy(b.Next, a.Next)
	for s := 3; s < 5; s++ {
		b.Next[s][symbol(2, 1, 2)] = s + 1
	}
	b.Next[5][symbol(2, 0, 2)], b.Next[5][symbol(2, 1, 2)] = 5, 5
	b.Accept[5] = true
	for i := range u {
		u[i] = i % 2
	}
	u[1207], u[1208] = 1, 1
	u[1206] = 1
	for i := range want {
		want[i] = 0
		if i%3 == 0 {
			want[i] = u[i]
		}
	}
	if v, is, err := pair.Image(2, b, u); err != api.OK || !is || !slices.Equal(v, want[:1206]) {
		t.Errorf("Image: %d letters, %v, %v, %d", len(v), brief(v), is, err)
	}
}
