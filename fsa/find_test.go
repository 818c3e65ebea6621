package fsa_test

import (
	"math/rand"
	"slices"
	"testing"

	"cayley/api"
	"cayley/fsa"
)

// mustDiffer tests the result of Differ.
func mustDiffer(t *testing.T, a, b api.Automaton, want []int, wantIs bool) {
	t.Helper()
	if w, is, err := fsa.Differ(a, b); !slices.Equal(w, want) || is != wantIs || err != api.OK {
		t.Errorf("Differ: %s, %d symbols, %v, %d, not %s, %d, %v", brief(w), len(w), is, err, brief(want), len(want), wantIs)
	}
}

// P6.3: the chapter's example, and others.
func TestDiffer(t *testing.T) {
	none := api.Automaton{Symbols: 2}
	mustDiffer(t, even(), odd(), nil, true)
	mustDiffer(t, even(), even(), nil, false)
	mustDiffer(t, even(), beside(even(), all()), nil, false)
	mustDiffer(t, even(), all(), []int{0}, true)
	mustDiffer(t, none, none, nil, false)
	mustDiffer(t, none, odd(), []int{0}, true)
	mustDiffer(t, auto(2, "1", []int{0, -1}), auto(2, "1", []int{-1, 0}), []int{0}, true)
	mustDiffer(t, auto(2, "11", []int{1, 1}, []int{0, -1}), all(), []int{0, 1}, true)
	mustDiffer(t, ring(141, 0), ring(142, 0), make([]int, 141), true) // Combine has too many states here
	mustDiffer(t, ring(19999, 19998), ring(2), make([]int, 19998), true)
	mustDiffer(t, ring(32, 0), ring(3125, 0), make([]int, 32), true)
	var third []int // 5000 states
	for s := 10000; s < 15000; s++ {
		third = append(third, s)
	}
	mustDiffer(t, ring(20000, third...), ring(15000, third...), make([]int, 25000), true)
}

// P6.3: errors of Differ; the number of pairs counts, also if a word is found ahead of them.
func TestDifferErrors(t *testing.T) {
	fails := func(name string, a, b api.Automaton, want api.Errno) {
		t.Helper()
		if w, is, err := fsa.Differ(a, b); len(w) > 0 || is || err != want {
			t.Errorf("Differ of %s: %d symbols, %v, %d", name, len(w), is, err)
		}
	}
	for name, bad := range invalid() {
		fails(name, bad, even(), api.ErrFsa)
		fails(name, api.Automaton{Symbols: 3}, bad, api.ErrFsa)
	}
	fails("other symbols", even(), api.Automaton{Symbols: 3}, api.ErrArg)
	fails("11 times 9091", ring(11, 0), ring(9091, 1), api.ErrLimit)
	fails("32 times 3125, and nowhere", column(ring(32, 0), nowhere), column(ring(3125, 0), nowhere), api.ErrLimit)
}

// P6.7: Differ's word is the least one.
func TestDifferRandom(t *testing.T) {
	r := rand.New(rand.NewSource(67))
	for range 4000 {
		symbols := 1 + r.Intn(3)
		a, b := random(r, 4, symbols), random(r, 4, symbols)
		if r.Intn(3) == 0 {
			b = disguised(r, a)
		}
		got, is, err := fsa.Differ(a, b)
		if err != api.OK {
			t.Fatal(err)
		}
		p, errP := fsa.Canon(a)
		q, errQ := fsa.Canon(b)
		if fsa.Same(must(t, "Canon", p, errP), must(t, "Canon", q, errQ)) == is {
			t.Fatalf("Differ of %v and %v: %v", a, b, is)
		}
		if is && accepts(a, got) == accepts(b, got) || !is && len(got) > 0 {
			t.Fatalf("Differ of %v and %v: %v, %v", a, b, got, is)
		}
		for w := range words(symbols, min(len(got), 7)) {
			if is && slices.Equal(w, got) {
				break
			}
			if accepts(a, w) != accepts(b, w) {
				t.Fatalf("Differ of %v and %v: %v, not %v", a, b, got, w)
			}
		}
	}
}

// mustList tests the result of List.
func mustList(t *testing.T, a api.Automaton, n, most int, want [][]int) {
	t.Helper()
	l, err := fsa.List(a, n, most)
	if err != api.OK || !slices.EqualFunc(l, want, slices.Equal) {
		t.Errorf("List of %s, %d, %d: %s, %d, not %s", brief(a), n, most, brief(l), err, brief(want))
	}
}

// P6.3: the chapter's example, and others.
func TestList(t *testing.T) {
	mustList(t, even(), 4, 9, [][]int{{}, {1}, {0, 0}, {1, 1}})
	mustList(t, even(), 0, 9, nil)
	mustList(t, even(), 9, 0, [][]int{{}})
	mustList(t, odd(), 9, 0, nil)
	mustList(t, even(), 10000, 2, [][]int{{}, {1}, {0, 0}, {1, 1}})
	mustList(t, api.Automaton{Symbols: 2}, 10000, 1000, nil)
	mustList(t, auto(2, "0", []int{0, 0}), 10000, 1000, nil)
	mustList(t, auto(2, "011", []int{1, -1}, []int{-1, 2}, []int{-1, -1}), 10000, 1000, [][]int{{0}, {0, 1}})
	mustList(t, chain(1000), 10000, 1000, [][]int{make([]int, 1000)})
	mustList(t, chain(1000), 10000, 999, nil)
	mustList(t, chain(1001), 10000, 1000, nil)
	mustList(t, chain(3, 700), 1, 1000, [][]int{{0, 0, 0}})
}

// P6.3: as many words, and as long ones, as there may be.
func TestListLarge(t *testing.T) {
	l, err := fsa.List(all(), 10000, 1000)
	if err != api.OK || len(l) != 10000 {
		t.Fatal(len(l), err)
	}
	i := 0
	for w := range words(2, 13) {
		if i < len(l) && !slices.Equal(l[i], w) {
			t.Fatal(i, brief(l[i]), w)
		}
		i++
	}
	l, err = fsa.List(everything(7), 10000, 1000)
	if err != api.OK || len(l) != 1001 || len(l[1000]) != 1000 {
		t.Error(len(l), err)
	}
	long := column(ring(1000, 990), func(s int) int { return (s + 1) % 1000 }) // all words of 990 symbols
	l, err = fsa.List(long, 10000, 1000)
	if err != api.OK || len(l) != 10000 || slices.Contains(l[0], 1) || len(l[9999]) != 990 {
		t.Fatal(len(l), err)
	}
	number := 0
	for _, x := range l[9999] {
		number = 2*number + x
	}
	if number != 9999 {
		t.Error(number)
	}
}

// P6.3: errors of List.
func TestListErrors(t *testing.T) {
	for name, bad := range invalid() {
		if l, err := fsa.List(bad, -1, -1); len(l) > 0 || err != api.ErrFsa {
			t.Errorf("List of %s: %d", name, err)
		}
	}
	for _, x := range [][2]int{{-1, 5}, {10001, 5}, {5, -1}, {5, 1001}, {1 << 62, 1 << 62}, {-1 << 63, -1 << 63}, {0, 1001}} {
		if l, err := fsa.List(even(), x[0], x[1]); len(l) > 0 || err != api.ErrArg {
			t.Errorf("List, %d, %d: %v, %d", x[0], x[1], l, err)
		}
	}
}

// P6.7: List has the first words that are accepted, and no others; they share no memory.
func TestListRandom(t *testing.T) {
	r := rand.New(rand.NewSource(68))
	for range 3000 {
		symbols := 1 + r.Intn(3)
		a := random(r, 6, symbols)
		n, most := r.Intn(40), r.Intn(7)
		var want [][]int
		for w := range words(symbols, most) {
			if len(want) < n && accepts(a, w) {
				want = append(want, w)
			}
		}
		mustList(t, a, n, most, want)
		l, _ := fsa.List(a, n, most)
		for i := range l {
			l[i] = append(l[i], -7)
		}
		for i := range l {
			if len(l[i]) != len(want[i])+1 || !slices.Equal(l[i][:len(want[i])], want[i]) {
				t.Fatalf("List of %v: words share memory", a)
			}
		}
	}
}
