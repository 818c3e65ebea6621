package lang_test

import (
	"slices"
	"testing"

	"cayley/api"
	"cayley/lang"
)

// mustPump tests that Pump proves that infinitely many words are accepted.
func mustPump(t *testing.T, name string, a api.Automaton) {
	t.Helper()
	p, q, r, err := lang.Pump(a)
	if err != api.OK || len(q) == 0 || len(p)+len(q)+len(r) > 2*len(a.Next) {
		t.Fatalf("Pump of %s: %d, %d and %d symbols, error %d", name, len(p), len(q), len(r), err)
	}
	for i := range 6 {
		if w := slices.Concat(p, slices.Repeat(q, i), r); !accepts(a, w) {
			t.Fatalf("Pump of %s: %s, %s, %s: not accepted %d times", name, brief(p), brief(q), brief(r), i)
		}
	}
}

// mustNotPump tests an error of Pump.
func mustNotPump(t *testing.T, name string, a api.Automaton, want api.Errno) {
	t.Helper()
	if p, q, r, err := lang.Pump(a); len(p)+len(q)+len(r) > 0 || err != want {
		t.Errorf("Pump of %s: %s, %s, %s, %d, not %d", name, brief(p), brief(q), brief(r), err, want)
	}
}

// P7.5: the chapter's example, and others; words are as short as they must be also where all ways are long.
func TestPump(t *testing.T) {
	mustPump(t, "E", even())
	mustPump(t, "all", all(400))
	mustPump(t, "a circle", ring(20000, 0))
	mustPump(t, "a circle", ring(20000, 19999))
	mustPump(t, "a circle of 20000 states and 4 symbols", widened(ring(20000, 5), 4))
	mustPump(t, "a loop beside the way", beside(auto(2, "1", []int{-1, 0}), three()))
	for _, n := range []int{1, 2, 3, 10, 19998} {
		mustPump(t, "there, around and on", lasso(n, 19999-n))
		mustPump(t, "around, and back", shuttle(n))
	}
	mustNotPump(t, "three words", three(), api.ErrNone)
	mustNotPump(t, "no states", none(2), api.ErrNone)
	mustNotPump(t, "no acceptance", auto(2, "0", []int{0, 0}), api.ErrNone)
	mustNotPump(t, "the empty word", auto(1, "1", []int{-1}), api.ErrNone)
	mustNotPump(t, "a loop that leads to no acceptance", auto(1, "10", []int{1}, []int{1}), api.ErrNone)
	mustNotPump(t, "a loop that is not reached", beside(three(), even()), api.ErrNone)
	mustNotPump(t, "19999 symbols", chain(1, 19999), api.ErrNone)
	for name, bad := range invalid() {
		mustNotPump(t, name, bad, api.ErrFsa)
	}
}

// lasso returns an automaton with a way of n states by the symbol 0, and a loop of so many by the symbol 1 at its end, from whose last state the symbol 0 leads to acceptance.
func lasso(n, loop int) api.Automaton {
	a := api.Automaton{Symbols: 2}
	for s := range n {
		a.Next = append(a.Next, []int{s + 1, -1})
	}
	for s := range loop {
		a.Next = append(a.Next, []int{-1, n + (s+1)%loop})
	}
	a.Next[n+loop-1][0] = n + loop
	a.Next = append(a.Next, []int{-1, -1})
	a.Accept = make([]bool, n+loop+1)
	a.Accept[n+loop] = true
	return a
}

// shuttle returns an automaton of n + 1 states in which the symbol 0 leads on, the symbol 1 back by one, and the last state accepts.
func shuttle(n int) api.Automaton {
	a := api.Automaton{Symbols: 2, Accept: make([]bool, n+1)}
	for s := range n + 1 {
		a.Next = append(a.Next, []int{s + 1, s - 1})
	}
	a.Next[n][0] = -1
	a.Accept[n] = true
	return a
}

// P7.5: the language is infinite exactly if there are such words.
func TestPumpSamples(t *testing.T) {
	for a := range samples(75, 4000) {
		if isFinite(a) {
			mustNotPump(t, brief(a), a, api.ErrNone)
		} else {
			mustPump(t, brief(a), a)
		}
	}
}
