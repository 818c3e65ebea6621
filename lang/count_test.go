package lang_test

import (
	"slices"
	"testing"

	"cayley/api"
	"cayley/lang"
)

func mustCount(t *testing.T, name string, a api.Automaton, n int, want []int, wantErr api.Errno) {
	t.Helper()
	if l, err := lang.Count(a, n); !slices.Equal(l, want) || err != wantErr {
		t.Errorf("Count of %s, %d: %s, %d, not %s, %d", name, n, brief(l), err, brief(want), wantErr)
	}
}

func mustSize(t *testing.T, name string, a api.Automaton, want int, wantFinite bool, wantErr api.Errno) {
	t.Helper()
	if n, finite, err := lang.Size(a); n != want || finite != wantFinite || err != wantErr {
		t.Errorf("Size of %s: %d, %v, %d, not %d, %v, %d", name, n, finite, err, want, wantFinite, wantErr)
	}
}

func mustBound(t *testing.T, name string, a api.Automaton, shortest, longest int, wantErr api.Errno) {
	t.Helper()
	if n, m, err := lang.Bounds(a); n != shortest || m != longest || err != wantErr {
		t.Errorf("Bounds of %s: %d, %d, %d, not %d, %d, %d", name, n, m, err, shortest, longest, wantErr)
	}
}

// power returns n^k.
func power(n, k int) int {
	p := 1
	for range k {
		p *= n
	}
	return p
}

// tenPlus returns the automaton of the words of 18 symbols, one of ten each, of which there are 10^18, and of one more word of so many symbols.
func tenPlus(more int) api.Automaton {
	a := chain(11, 18)
	for _, row := range a.Next {
		row[10] = -1
	}
	base := len(a.Next)
	a.Next[0][10] = base
	for i := range more {
		row := slices.Repeat([]int{-1}, 11)
		if i < more-1 {
			row[10] = base + i + 1
		}
		a.Next = append(a.Next, row)
		a.Accept = append(a.Accept, i == more-1)
	}
	return a
}

// far returns an automaton whose words have so many symbols, and are very many.
func far(lengths ...int) api.Automaton { return chain(api.MaxSymbol, lengths...) }

// P7.1: the chapter's examples, and others.
func TestCount(t *testing.T) {
	mustCount(t, "E", even(), 3, []int{1, 1, 2, 4}, api.OK)
	mustCount(t, "E", even(), 0, []int{1}, api.OK)
	mustCount(t, "three words", three(), 5, []int{0, 1, 1, 1, 0, 0}, api.OK)
	mustCount(t, "no states", none(2), 2, []int{0, 0, 0}, api.OK)
	mustCount(t, "no states", none(400), 1000, make([]int, 1001), api.OK)
	mustCount(t, "no acceptance", auto(2, "0", []int{0, 0}), 2, []int{0, 0, 0}, api.OK)
	mustCount(t, "a later start", api.Automaton{Symbols: 1, Start: 1, Accept: []bool{true, false}, Next: [][]int{{-1}, {0}}}, 2, []int{0, 1, 0}, api.OK)
	mustCount(t, "one symbol", all(1), 1000, slices.Repeat([]int{1}, 1001), api.OK)
	mustCount(t, "400 symbols", all(400), 3, []int{1, 400, 160000, 64000000}, api.OK)
	want := make([]int, 1001)
	want[7], want[998] = 1, 1
	mustCount(t, "a circle of 991", ring(991, 7), 1000, want, api.OK)
	want[998], want[1000] = 0, 1
	mustCount(t, "a circle of 20000", ring(20000, 7, 1000, 1001), 1000, want, api.OK)
}

// P7.1: each number may be 10^18, and no more; numbers that are greater count only if they are returned.
func TestCountLimit(t *testing.T) {
	mustCount(t, "ten symbols", all(10), 18, powers(10, 19), api.OK)
	mustCount(t, "ten symbols", all(10), 19, nil, api.ErrLimit)
	mustCount(t, "ten symbols", all(10), 1000, nil, api.ErrLimit)
	want := make([]int, 20)
	want[17], want[18] = 1, most
	mustCount(t, "10^18 and a shorter word", tenPlus(17), 19, want, api.OK)
	want[17], want[19] = 0, 1
	mustCount(t, "10^18 and a longer word", tenPlus(19), 19, want, api.OK)
	mustCount(t, "10^18 + 1 words", tenPlus(18), 19, nil, api.ErrLimit)
	mustCount(t, "10^18 + 1 words", tenPlus(18), 17, want[:18], api.OK)
	mustCount(t, "256 symbols", all(256), 7, powers(256, 8), api.OK)
	mustCount(t, "256 symbols", all(256), 8, nil, api.ErrLimit) // 2^64
	mustCount(t, "256 symbols", chain(256, 8), 8, nil, api.ErrLimit)
	mustCount(t, "E", even(), 60, append([]int{1}, powers(2, 60)...), api.OK)
	mustCount(t, "E", even(), 61, nil, api.ErrLimit)
	mustCount(t, "1001 symbols", far(1001), 1000, make([]int, 1001), api.OK)
	mustCount(t, "20 and 1001 symbols", far(20, 1001), 19, make([]int, 20), api.OK)
	mustCount(t, "20 and 1001 symbols", far(20, 1001), 20, nil, api.ErrLimit)
	mustCount(t, "1000 symbols", far(1000), 999, make([]int, 1000), api.OK)
	mustCount(t, "1000 symbols", far(1000), 1000, nil, api.ErrLimit)
	mustCount(t, "7 symbols", far(7), 7, nil, api.ErrLimit)
	mustCount(t, "6 symbols", far(6), 7, []int{0, 0, 0, 0, 0, 0, power(400, 6), 0}, api.OK)
}

// tensOf returns the powers of n up to the exponent k - 1, from the exponent 0 on.
func powers(n, k int) []int {
	var out []int
	for i := range k {
		out = append(out, power(n, i))
	}
	return out
}

// P7.1: numbers that are above 10^18 for states ahead, in all ways, do not disturb others: all words of 400 symbols but those that begin with 399, of which just one counts.
func TestCountMixed(t *testing.T) {
	a := far(30)
	for _, row := range a.Next {
		row[399] = -1
	}
	n := len(a.Next)
	a.Next[0] = slices.Repeat([]int{-1}, 400)
	a.Next[0][0], a.Next[0][399] = n, 1
	row := slices.Repeat([]int{n}, 400)
	a.Next = append(a.Next, row)
	a.Accept = append(a.Accept, true) // 0, and anything behind it
	mustCount(t, "mixed", a, 7, []int{0, 1, 400, power(400, 2), power(400, 3), power(400, 4), power(400, 5), power(400, 6)}, api.OK)
	mustCount(t, "mixed", a, 8, nil, api.ErrLimit)
}

// P7.1: errors, in their order.
func TestCountErrors(t *testing.T) {
	for name, bad := range invalid() {
		mustCount(t, name, bad, 0, nil, api.ErrFsa)
		mustCount(t, name, bad, -1, nil, api.ErrFsa)
		mustSize(t, name, bad, 0, false, api.ErrFsa)
		mustBound(t, name, bad, 0, 0, api.ErrFsa)
	}
	for _, n := range outside(1000) {
		mustCount(t, "all", all(400), n, nil, api.ErrArg)
		mustCount(t, "none", none(1), n, nil, api.ErrArg)
	}
}

// P7.1: sizes, and their limit.
func TestSize(t *testing.T) {
	mustSize(t, "E", even(), 0, false, api.OK)
	mustSize(t, "three words", three(), 3, true, api.OK)
	mustSize(t, "no states", none(2), 0, true, api.OK)
	mustSize(t, "no acceptance", auto(1, "0", []int{0}), 0, true, api.OK)
	mustSize(t, "the empty word", auto(1, "1", []int{-1}), 1, true, api.OK)
	mustSize(t, "a loop that leads to no acceptance", auto(1, "10", []int{1}, []int{1}), 1, true, api.OK)
	mustSize(t, "a loop that is not reached", beside(three(), even()), 3, true, api.OK)
	mustSize(t, "a loop behind 19999 symbols", beside(auto(1, "0", []int{1}), ring(19999, 19998)), 0, false, api.OK)
	mustSize(t, "one word of 19999 symbols", chain(1, 19999), 1, true, api.OK)
	mustSize(t, "10^18 words", chain(10, 18), most, true, api.OK)
	mustSize(t, "10^18 + 1 words", chain(10, 0, 18), 0, false, api.ErrLimit)
	mustSize(t, "10^18 + 1 words", tenPlus(18), 0, false, api.ErrLimit)
	mustSize(t, "as many words as there are", far(19999), 0, false, api.ErrLimit)
	mustSize(t, "with a loop", widened(ring(20000, 3), 4), 0, false, api.OK)
	mustSize(t, "2^59 words", chain(2, 59), 1<<59, true, api.OK)
	mustSize(t, "2^60 words", chain(2, 60), 0, false, api.ErrLimit)
	mustSize(t, "2^64 words", chain(2, 64), 0, false, api.ErrLimit)
	mustSize(t, "256^8 words", chain(256, 8), 0, false, api.ErrLimit)
}

// P7.1: the chapter's examples of lengths, and others.
func TestBounds(t *testing.T) {
	mustBound(t, "E", even(), 0, -1, api.OK)
	mustBound(t, "three words", three(), 1, 3, api.OK)
	mustBound(t, "the empty word", auto(1, "1", []int{-1}), 0, 0, api.OK)
	mustBound(t, "no states", none(1), 0, 0, api.ErrNone)
	mustBound(t, "no acceptance", auto(2, "0", []int{0, 0}), 0, 0, api.ErrNone)
	mustBound(t, "acceptance that is not reached", beside(auto(1, "0", []int{0}), all(1)), 0, 0, api.ErrNone)
	mustBound(t, "a loop that leads to no acceptance", auto(1, "010", []int{1}, []int{2}, []int{2}), 1, 1, api.OK)
	mustBound(t, "5 to 19999 symbols", chain(1, 5, 19999), 5, 19999, api.OK)
	mustBound(t, "19999 symbols", chain(4, 19999), 19999, 19999, api.OK)
	mustBound(t, "a circle", ring(20000, 19999), 19999, -1, api.OK)
	mustBound(t, "10^18 words and one", tenPlus(30), 18, 30, api.OK)
}

// P7.1: against the words themselves.
func TestCountSamples(t *testing.T) {
	for a := range samples(71, 3000) {
		l := accepted(a, 6)
		want := make([]int, 7)
		for _, w := range l {
			want[len(w)]++
		}
		name := brief(a)
		mustCount(t, name, a, 6, want, api.OK)
		finite := isFinite(a) // with at most 5 states: no word of more than 4 symbols
		switch {
		case finite && len(l) == 0:
			mustSize(t, name, a, 0, true, api.OK)
			mustBound(t, name, a, 0, 0, api.ErrNone)
		case finite:
			mustSize(t, name, a, len(l), true, api.OK)
			mustBound(t, name, a, len(l[0]), len(l[len(l)-1]), api.OK)
		default:
			mustSize(t, name, a, 0, false, api.OK)
			mustBound(t, name, a, len(l[0]), -1, api.OK)
		}
		if t.Failed() {
			return
		}
	}
}
