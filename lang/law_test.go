package lang_test

import (
	"math/rand"
	"slices"
	"testing"

	"cayley/api"
	"cayley/fsa"
	"cayley/lang"
)

// counts returns the numbers of words up to some length, at most n, as long as they are in range.
func counts(t *testing.T, a api.Automaton, n int) []int {
	t.Helper()
	l, err := lang.Count(a, n)
	for ; err == api.ErrLimit; n-- {
		l, err = lang.Count(a, n-1)
	}
	if err != api.OK || len(l) != n+1 {
		t.Fatalf("Count of %s, %d: %s, %d", brief(a), n, brief(l), err)
	}
	return l
}

// P7.6: counts of languages without common words add up; those of the complement are what is left of all.
func TestCountLaws(t *testing.T) {
	r := rand.New(rand.NewSource(761))
	for range 1500 {
		symbols := 1 + r.Intn(4)
		a, b := random(r, 6, symbols), random(r, 6, symbols)
		b, errB := fsa.Combine(b, a, api.FsaMinus)
		union, errU := fsa.Combine(a, b, api.FsaOr)
		rest, errR := fsa.Complement(a)
		if errB != api.OK || errU != api.OK || errR != api.OK {
			t.Fatal(errB, errU, errR)
		}
		whole := counts(t, all(symbols), 60)
		n := len(whole) - 1
		ofA, ofB, ofUnion, ofRest := counts(t, a, n), counts(t, b, n), counts(t, union, n), counts(t, rest, n)
		for i := range whole {
			if ofA[i]+ofB[i] != ofUnion[i] || ofA[i]+ofRest[i] != whole[i] {
				t.Fatalf("Count of %s: %d of %d symbols; of %s: %d; of both: %d; of the complement: %d", brief(a), ofA[i], i, brief(b), ofB[i], ofUnion[i], ofRest[i])
			}
		}
	}
}

// P7.6: the counts up to n, together, are the rank of the first word of n + 1 symbols; those of a finite language are its size.
func TestCountSums(t *testing.T) {
	for a := range samples(762, 2000) {
		sum := 0
		l := counts(t, a, 20)
		for n, more := range l {
			mustRank(t, brief(a), a, make([]int, n), sum, api.OK)
			sum += more
		}
		mustRank(t, brief(a), a, make([]int, len(l)), sum, api.OK)
		if isFinite(a) {
			mustSize(t, brief(a), a, sum, true, api.OK)
		}
		if t.Failed() {
			return
		}
	}
}

// All calls leave their arguments as they are, and what they return is new memory: what is done to it does not change what they return the next time.
func TestPurity(t *testing.T) {
	e, closed, factors, w := even(), everyState(chain(2, 5)), [][]int{{0, 1, 0}, {1, 1}}, []int{1, 0, 1, 1}
	was, wasClosed := copied(e), copied(closed)
	for range 3 {
		l, err := lang.Count(e, 3)
		if !slices.Equal(l, []int{1, 1, 2, 4}) || err != api.OK {
			t.Error("Count", l, err)
		}
		clear(l)
		v, err := lang.Unrank(e, 5)
		if !slices.Equal(v, []int{0, 1, 1}) || err != api.OK {
			t.Error("Unrank", v, err)
		}
		clear(v)
		p, q, r, err := lang.Pump(e)
		if !accepts(e, slices.Concat(p, q, q, q, r)) || err != api.OK {
			t.Error("Pump", p, q, r, err)
		}
		p, q, r = append(p, 7), append(q, 8), append(r, 9)
		if slices.Contains(p, 8) || slices.Contains(q, 7) || slices.Contains(q, 9) || slices.Contains(r, 8) {
			t.Error("Pump: words share memory", p, q, r)
		}
		a, err := lang.Prefixes(closed)
		mustBe(t, "Prefixes", a, err, wasClosed)
		spoil(a)
		a, err = lang.Avoid(2, factors)
		mustBe(t, "Avoid", a, err, auto(2, "1111", []int{1, 2}, []int{1, 3}, []int{1, -1}, []int{-1, -1}))
		spoil(a)
		mustRank(t, "E", e, w, 14, api.OK)
		mustSize(t, "closed", closed, 63, true, api.OK)
		mustBound(t, "closed", closed, 0, 5, api.OK)
		if lang.Closed(e) || !lang.Closed(closed) {
			t.Error("Closed")
		}
	}
	if !fsa.Same(e, was) || !fsa.Same(closed, wasClosed) || !slices.Equal(w, []int{1, 0, 1, 1}) || !slices.EqualFunc(factors, [][]int{{0, 1, 0}, {1, 1}}, slices.Equal) {
		t.Error("arguments have been changed")
	}
}

// spoil changes all entries of an automaton.
func spoil(a api.Automaton) {
	clear(a.Accept)
	for _, row := range a.Next {
		clear(row)
	}
	clear(a.Next)
}
