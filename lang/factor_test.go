package lang_test

import (
	"math/rand"
	"slices"
	"testing"

	"cayley/api"
	"cayley/fsa"
	"cayley/lang"
)

// mustBe tests the result of a construction.
func mustBe(t *testing.T, name string, a api.Automaton, err api.Errno, want api.Automaton) {
	t.Helper()
	if err != api.OK || !fsa.Same(a, want) {
		t.Errorf("%s: %s, %d, not %s", name, brief(a), err, brief(want))
	}
}

// mustFail tests that a construction has an error, and nothing else.
func mustFail(t *testing.T, name string, a api.Automaton, err, want api.Errno) {
	t.Helper()
	if err != want || a.Symbols != 0 || a.Start != 0 || a.Accept != nil || a.Next != nil {
		t.Errorf("%s: %d states, error %d, not %d", name, len(a.Next), err, want)
	}
}

// contains reports whether a word contains a factor.
func contains(w, factor []int) bool {
	for i := range len(w) - len(factor) + 1 {
		if slices.Equal(w[i:i+len(factor)], factor) {
			return true
		}
	}
	return false
}

// avoids reports whether a word contains none of some factors.
func avoids(w []int, factors [][]int) bool {
	return !slices.ContainsFunc(factors, func(factor []int) bool { return contains(w, factor) })
}

// P7.3: the chapter's examples, and others.
func TestAvoid(t *testing.T) {
	for _, x := range []struct {
		name    string
		symbols int
		factors [][]int
		want    api.Automaton
	}{
		{"0 1", 2, [][]int{{0, 1}}, auto(2, "11", []int{1, 0}, []int{1, -1})},
		{"0 1, three times", 2, [][]int{{0, 1}, {0, 1}, {0, 1}}, auto(2, "11", []int{1, 0}, []int{1, -1})},
		{"0 1, and words that contain it", 2, [][]int{{0, 1, 1}, {1, 0, 1}, {0, 1}, {0, 1, 0}}, auto(2, "11", []int{1, 0}, []int{1, -1})},
		{"the empty factor", 2, [][]int{{}}, none(2)},
		{"the empty factor behind others", 3, [][]int{{0, 1}, nil}, none(3)},
		{"no factors", 2, nil, all(2)},
		{"no factors", 400, [][]int{}, all(400)},
		{"a symbol", 2, [][]int{{1}}, auto(2, "1", []int{0, -1})},
		{"all symbols", 2, [][]int{{1}, {0}}, auto(2, "1", []int{-1, -1})},
		{"0 0 and 1 1", 2, [][]int{{0, 0}, {1, 1}}, auto(2, "111", []int{1, 2}, []int{-1, 2}, []int{1, -1})},
		{"all words of two symbols", 2, [][]int{{0, 0}, {1, 1}, {1, 0}, {0, 1}}, auto(2, "11", []int{1, 1}, []int{-1, -1})},
		{"0 0 1 0", 2, [][]int{{0, 0, 1, 0}}, auto(2, "1111", []int{1, 0}, []int{2, 0}, []int{2, 3}, []int{-1, 0})},
		{"0 1 0 and 1 1", 2, [][]int{{0, 1, 0}, {1, 1}}, auto(2, "1111", []int{1, 2}, []int{1, 3}, []int{1, -1}, []int{-1, -1})},
		{"free reduction of a letter", 2, [][]int{{0, 1}, {1, 0}}, auto(2, "111", []int{1, 2}, []int{1, -1}, []int{-1, 2})},
	} {
		a, err := lang.Avoid(x.symbols, x.factors)
		mustBe(t, "Avoid "+x.name, a, err, x.want)
	}
}

// P7.3: errors of Avoid, in their order.
func TestAvoidErrors(t *testing.T) {
	bad := [][]int{{0, 1}, {2}}
	for _, symbols := range []int{0, -1, 401, 1<<63 - 1, -1 << 63} {
		a, err := lang.Avoid(symbols, nil)
		mustFail(t, "symbols", a, err, api.ErrArg)
		a, err = lang.Avoid(symbols, bad)
		mustFail(t, "symbols, and a bad factor", a, err, api.ErrArg)
		a, err = lang.Avoid(symbols, make([][]int, 2001))
		mustFail(t, "symbols, and many factors", a, err, api.ErrArg)
	}
	for _, symbol := range outside(1) {
		for _, factor := range [][]int{{symbol}, {0, symbol}, {symbol, 1}} {
			a, err := lang.Avoid(2, [][]int{factor})
			mustFail(t, "a symbol", a, err, api.ErrForm)
			a, err = lang.Avoid(2, [][]int{{}, {0, 1}, factor, {0}})
			mustFail(t, "a symbol of a later factor", a, err, api.ErrForm)
			a, err = lang.Avoid(2, [][]int{factor, make([]int, 2000)})
			mustFail(t, "too many symbols behind a bad one", a, err, api.ErrLimit)
		}
	}
}

// P7.3: factors may have 2000 symbols together, and they may be 2000.
func TestAvoidLimit(t *testing.T) {
	long := make([]int, 2001)
	a, err := lang.Avoid(400, [][]int{long[:2000]})
	if err != api.OK || len(a.Next) != 2000 || !fsa.IsCanon(a) || !fsa.Accepts(a, long[:1999]) || fsa.Accepts(a, long[:2000]) {
		t.Error("2000 symbols", len(a.Next), err)
	}
	a, err = lang.Avoid(400, [][]int{long})
	mustFail(t, "2001 symbols", a, err, api.ErrLimit)
	a, err = lang.Avoid(400, [][]int{long[:1000], long[:1001]})
	mustFail(t, "1000 and 1001 symbols", a, err, api.ErrLimit)
	a, err = lang.Avoid(1, slices.Repeat([][]int{{0}}, 2000))
	mustBe(t, "2000 times a symbol", a, err, auto(1, "1", []int{-1}))
	a, err = lang.Avoid(1, slices.Repeat([][]int{{0}}, 2001))
	mustFail(t, "2001 times a symbol", a, err, api.ErrLimit)
	a, err = lang.Avoid(1, make([][]int, 2000))
	mustBe(t, "2000 times the empty factor", a, err, none(1))
	a, err = lang.Avoid(1, make([][]int, 2001))
	mustFail(t, "2001 times the empty factor", a, err, api.ErrLimit)

	var l [][]int // 400 factors of 5 symbols each
	for x := range 400 {
		l = append(l, []int{x, (x + 1) % 400, (x + 2) % 400, (x + 3) % 400, (x * x) % 400})
	}
	a, err = lang.Avoid(400, l)
	if err != api.OK || !fsa.IsCanon(a) || len(a.Next) < 1200 || len(a.Next) > 1601 {
		t.Error("400 factors", len(a.Next), err)
	}
	r := rand.New(rand.NewSource(73))
	for range 2000 {
		w := []int{r.Intn(400)}
		for range 8 {
			w = append(w, (w[len(w)-1]+1)%400)
		}
		w[5+r.Intn(4)] = r.Intn(400)
		if fsa.Accepts(a, w) != avoids(w, l) {
			t.Fatal(w, !avoids(w, l))
		}
	}
}

// randomFactors returns up to n factors.
func randomFactors(r *rand.Rand, n, symbols int) [][]int {
	var l [][]int
	for range r.Intn(n + 1) {
		var w []int
		for range 1 + r.Intn(5) {
			w = append(w, r.Intn(symbols))
		}
		if r.Intn(40) == 0 {
			w = nil
		}
		l = append(l, w)
	}
	return l
}

// P7.3, P7.7: what is accepted contains no factor, and what contains none is accepted; so the language is closed under prefixes and factors, and with one more factor it becomes no greater.
func TestAvoidRandom(t *testing.T) {
	r := rand.New(rand.NewSource(77))
	for range 1500 {
		symbols := 1 + r.Intn(3)
		l := randomFactors(r, 6, symbols)
		a, err := lang.Avoid(symbols, l)
		if err != api.OK || !fsa.IsCanon(a) || !lang.Closed(a) {
			t.Fatalf("Avoid %v: %v, %d", l, a, err)
		}
		for w := range words(symbols, 7) {
			if accepts(a, w) != avoids(w, l) {
				t.Fatalf("Avoid %v: %v accepts %v: %v", l, a, w, accepts(a, w))
			}
			if accepts(a, w) && len(w) > 0 && !accepts(a, w[1:]) {
				t.Fatalf("Avoid %v: %v accepts %v, but not what is left without the first symbol", l, a, w)
			}
		}
		p, err := lang.Prefixes(a)
		mustBe(t, "its prefixes", p, err, a)
		b, err := lang.Avoid(symbols, append(l, randomFactors(r, 1, symbols)...))
		more, errMore := fsa.Combine(b, a, api.FsaMinus)
		if err != api.OK || errMore != api.OK || len(more.Next) > 0 {
			t.Fatalf("Avoid %v: %v; with one more factor: %v", l, a, b)
		}
	}
}

// P7.3: the chapter's examples of prefixes, and others.
func TestPrefixes(t *testing.T) {
	for _, x := range []struct {
		name    string
		a, want api.Automaton
		closed  bool
	}{
		{"E", even(), all(2), false},
		{"three words", three(), auto(2, "1111", []int{1, 2}, []int{-1, -1}, []int{1, 3}, []int{1, -1}), false},
		{"no states", none(3), none(3), true},
		{"no acceptance", auto(2, "0", []int{0, 0}), none(2), true},
		{"all", all(2), all(2), true},
		{"the empty word", auto(2, "1", []int{-1, -1}), auto(2, "1", []int{-1, -1}), true},
		{"the empty word, and more states", auto(2, "10", []int{1, 1}, []int{1, 1}), auto(2, "1", []int{-1, -1}), true},
		{"a state that is not reached", beside(all(1), ring(3, 2)), all(1), true},
		{"all, with more states", auto(1, "11", []int{1}, []int{0}), all(1), true},
		{"19999 symbols", chain(1, 19999), everyState(chain(1, 19999)), false},
		{"up to 19999 symbols", everyState(chain(1, 19999)), everyState(chain(1, 19999)), true},
		{"a circle", ring(20000, 7), all(1), false},
		{"a later start", api.Automaton{Symbols: 1, Start: 1, Accept: []bool{true, false}, Next: [][]int{{-1}, {0}}}, auto(1, "11", []int{1}, []int{-1}), false},
	} {
		p, err := lang.Prefixes(x.a)
		mustBe(t, "Prefixes of "+x.name, p, err, x.want)
		if lang.Closed(x.a) != x.closed || !lang.Closed(p) {
			t.Errorf("Closed of %s: %v", x.name, !x.closed)
		}
	}
	for name, bad := range invalid() {
		p, err := lang.Prefixes(bad)
		mustFail(t, "Prefixes of "+name, p, err, api.ErrFsa)
		if lang.Closed(bad) {
			t.Errorf("Closed of %s", name)
		}
	}
}

// everyState returns an automaton all of whose states accept.
func everyState(a api.Automaton) api.Automaton {
	a = copied(a)
	for s := range a.Accept {
		a.Accept[s] = true
	}
	return a
}

// P7.3: against the words themselves. (A state that leads to acceptance does so by fewer symbols than there are states.)
func TestPrefixesSamples(t *testing.T) {
	for a := range samples(76, 1500) {
		p, err := lang.Prefixes(a)
		if err != api.OK || !fsa.IsCanon(p) {
			t.Fatalf("Prefixes of %s: %s, %d", brief(a), brief(p), err)
		}
		closed := true
		for w := range words(a.Symbols, 4) {
			is := isPrefix(a, w)
			if accepts(p, w) != is {
				t.Fatalf("Prefixes of %s: %s accepts %v: %v", brief(a), brief(p), w, !is)
			}
			closed = closed && is == accepts(a, w)
		}
		if lang.Closed(a) != closed {
			t.Fatalf("Closed of %s: %v", brief(a), !closed)
		}
	}
}

// isPrefix reports whether a word is a prefix of an accepted word, for automata of at most 5 states.
func isPrefix(a api.Automaton, w []int) bool {
	to, leads := fsa.Lead(a, a.Start, w)
	if !leads {
		return false
	}
	a.Start = to
	return len(accepted(a, 4)) > 0
}
