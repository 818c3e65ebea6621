package word_test

import (
	"math"
	"math/rand"
	"strings"
	"testing"

	"cayley/api"
	"cayley/word"
)

// slowForm holds all rotations of a core against each other.
func slowForm(core string) string {
	least := core
	for i := range len(core) {
		if r := core[i:] + core[:i]; word.Compare(r, least) < 0 {
			least = r
		}
	}
	return least
}

// P1.2
func TestCyclic(t *testing.T) {
	for _, x := range [][3]string{
		{"abaBA", "a", "ab"}, {"", "", ""}, {"aA", "", ""}, {"a", "a", ""}, {"abA", "b", "a"}, {"aabA", "ab", "a"}, {"ab", "ab", ""}, {"aa", "aa", ""},
		{"bBabaBAcC", "a", "ab"}, {"abAB", "abAB", ""}, {"aabbAA", "bb", "aa"},
	} {
		if core, conj := word.Cyclic(x[0]); core != x[1] || conj != x[2] {
			t.Errorf("Cyclic(%q) = %q, %q", x[0], core, conj)
		}
	}
	for _, w := range wordsUpTo(2, 6) {
		core, conj := word.Cyclic(w)
		if conj+core+word.Inverse(conj) != word.Reduce(w) {
			t.Errorf("Cyclic(%q) = %q, %q", w, core, conj)
		}
		if n := len(core); n > 1 && core[0]^core[n-1] == 32 || n == 0 && word.Reduce(w) != "" {
			t.Errorf("the core %q of %q", core, w)
		}
		if c, d := word.Cyclic(core); c != core || d != "" {
			t.Errorf("the core %q of %q is not its own core", core, w)
		}
	}
}

// P1.2
func TestForm(t *testing.T) {
	for _, x := range [][2]string{{"bab", "abb"}, {"Aba", "b"}, {"BA", "AB"}, {"", ""}, {"bB", ""}, {"Aa", ""}, {"baA", "b"}, {"Ab", "Ab"}, {"bA", "Ab"}, {"hgh", "ghh"}, {"baba", "abab"}} {
		if w := word.Form(x[0]); w != x[1] {
			t.Errorf("Form(%q) = %q", x[0], w)
		}
	}
	words := wordsUpTo(2, 6)
	r := rand.New(rand.NewSource(1))
	for i := range 2000 {
		words = append(words, randomWord(r, 1+i%3, 1+i%40))
	}
	for _, w := range words {
		core, _ := word.Cyclic(w)
		if form := word.Form(w); form != slowForm(core) {
			t.Errorf("Form(%q) = %q, not %q", w, form, slowForm(core))
		}
	}
}

// P1.2
func TestRoot(t *testing.T) {
	for _, x := range []struct {
		w, root string
		n       int
	}{
		{"baaB", "baB", 2}, {"abab", "ab", 2}, {"A", "A", 1}, {"aA", "", 0}, {"", "", 0}, {"aaaa", "a", 4}, {"AAA", "A", 3}, {"aba", "aba", 1}, {"abaaba", "aba", 2},
		{"cabababC", "cabC", 3}, {"aab", "aab", 1}, {"bBaab", "aab", 1}, {"aaaaaa", "a", 6}, {"aabaab", "aab", 2}, {"abaab", "abaab", 1},
	} {
		if root, n := word.Root(x.w); root != x.root || n != x.n {
			t.Errorf("Root(%q) = %q, %d", x.w, root, n)
		}
	}
}

// P1.2: the number of the root is the greatest one, by trial of all words.
func TestRootIsGreatest(t *testing.T) {
	words := reducedUpTo(2, 6)
	greatest := map[string]int{}
	for _, w := range words[1:] {
		for n := 1; n <= 6; n++ {
			power, _ := word.Power(w, n)
			greatest[power] = max(greatest[power], n)
		}
	}
	for _, w := range words[1:] {
		root, n := word.Root(w)
		if back, _ := word.Power(root, n); back != w || n != greatest[w] {
			t.Errorf("Root(%q) = %q, %d", w, root, n)
		}
	}
}

// P1.2
func TestPower(t *testing.T) {
	a := strings.Repeat("a", 50000)
	for _, x := range []struct {
		w   string
		n   int
		out string
		err api.Errno
	}{
		{"aB", -2, "bAbA", api.OK}, {"aB", 0, "", api.OK}, {"aB", 1, "aB", api.OK}, {"aB", -1, "bA", api.OK}, {"abA", 3, "abbbA", api.OK}, {"abA", -2, "aBBA", api.OK}, {"aAb", 2, "bb", api.OK},
		{"", math.MaxInt, "", api.OK}, {"", math.MinInt, "", api.OK}, {"bB", math.MaxInt, "", api.OK}, {"bB", math.MinInt, "", api.OK}, {"a", 0, "", api.OK},
		{"a", 100000, a + a, api.OK}, {"a", -100000, strings.ToUpper(a + a), api.OK}, {"a", 100001, "", api.ErrLimit}, {"a", -100001, "", api.ErrLimit},
		{"baB", 99998, "b" + a + a[2:] + "B", api.OK}, {"baB", 99999, "", api.ErrLimit}, {"baB", -99999, "", api.ErrLimit},
		{"a", math.MaxInt, "", api.ErrLimit}, {"a", math.MinInt, "", api.ErrLimit}, {"ab", 1 << 62, "", api.ErrLimit}, {"ab", -1 << 62, "", api.ErrLimit},
		{a + a, 1, a + a, api.OK}, {a + a, 2, "", api.ErrLimit}, {a + a, 0, "", api.OK}, {a, 2, a + a, api.OK},
		{"i", 2, "", api.ErrForm}, {a + a + "a", 0, "", api.ErrForm},
	} {
		if out, err := word.Power(x.w, x.n); out != x.out || err != x.err {
			t.Errorf("Power(%.20q, %d) = %.20q, %d", x.w, x.n, out, err)
		}
	}
	for _, w := range wordsUpTo(2, 4) {
		for n := -4; n <= 4; n++ {
			base := w
			if n < 0 {
				base = word.Inverse(w)
			}
			if out, err := word.Power(w, n); err != api.OK || out != slowReduce(strings.Repeat(base, max(n, -n))) {
				t.Errorf("Power(%q, %d) = %q, %d", w, n, out, err)
			}
		}
	}
}

// conjugates reports whether x is freely reduced and u is x v x^-1.
func conjugates(u, v, x string) bool {
	return word.Check(8, x) == api.OK && slowReduce(x) == x && slowReduce(x+v+word.Inverse(x)) == slowReduce(u)
}

// P1.2
func TestConjugate(t *testing.T) {
	for _, x := range []struct {
		u, v string
		is   bool
	}{
		{"ab", "ba", true}, {"a", "A", false}, {"", "", true}, {"", "aA", true}, {"bB", "aA", true}, {"a", "", false}, {"", "a", false}, {"a", "b", false}, {"aab", "aba", true}, {"caabC", "bDabaABBdabBAb", false},
		{"abab", "ab", false}, {"abc", "cab", true}, {"abc", "acb", false}, {"cabC", "dbaD", true}, {"aaa", "aaa", true}, {"abab", "baba", true},
	} {
		conj, is := word.Conjugate(x.u, x.v)
		if is != x.is || !is && conj != "" || is && !conjugates(x.u, x.v, conj) {
			t.Errorf("Conjugate(%q, %q) = %q, %v", x.u, x.v, conj, is)
		}
	}
}

// P1.2: words of the greatest length, of kinds for which a search among all rotations, or a removal of pairs one by one, would not end in time.
func TestLongWords(t *testing.T) {
	const n = api.MaxWord
	a := strings.Repeat("a", n)
	for _, x := range []struct {
		w, form string
		number  int
	}{
		{a, a, n},
		{a[1:] + "b", a[1:] + "b", 1},
		{"b" + a[1:], a[1:] + "b", 1},
		{a[:n/2-1] + "b" + a[:n/2-1] + "b", a[:n/2-1] + "b" + a[:n/2-1] + "b", 2},
		{a[:n/2-1] + "b" + a[:n/2-2] + "bb", a[:n/2-1] + "b" + a[:n/2-2] + "bb", 1},
		{strings.Repeat("ba", n/2), strings.Repeat("ab", n/2), n / 2},
		{a[:n/2-1] + "bc" + strings.Repeat("A", n/2-1), "bc", 1},
		{a[:n/2] + strings.Repeat("A", n/2), "", 0},
		{strings.Repeat("aA", n/2), "", 0},
	} {
		if form := word.Form(x.w); form != x.form {
			t.Errorf("the form of %.20q.. has %d letters", x.w, len(form))
		}
		root, number := word.Root(x.w)
		if back, err := word.Power(root, number); number != x.number || err != api.OK || back != word.Reduce(x.w) {
			t.Errorf("the root of %.20q.. has the number %d", x.w, number)
		}
		conj, is := word.Conjugate(x.w, x.form)
		if !is || word.Reduce(conj) != conj {
			t.Errorf("%.20q.. is not conjugate to its form", x.w)
		}
	}
}

// P1.2: also where the conjugators of both words are as long as they can be, x is a word.
func TestLongConjugators(t *testing.T) {
	a := strings.Repeat("a", api.MaxWord/2-1)
	b := strings.Repeat("b", api.MaxWord/2-1)
	u := a + "cd" + word.Inverse(a)
	v := b + "dc" + word.Inverse(b)
	x, is := word.Conjugate(u, v)
	if !is || word.Check(8, x) != api.OK || word.Reduce(x) != x {
		t.Fatal(len(x), is)
	}
	core := strings.TrimSuffix(strings.TrimPrefix(x, a), word.Inverse(b)) // u is x v x^-1: so this takes dc to cd
	if len(core) > 3 || word.Reduce(core+"dc"+word.Inverse(core)) != "cd" {
		t.Errorf("%.20q", core)
	}
}
