package word_test

import (
	"math"
	"math/rand"
	"slices"
	"strings"
	"testing"

	"cayley/api"
	"cayley/word"
)

// strangers are strings that are no words of 8 generators.
func strangers() []string {
	return []string{"i", "I", "1", " ", "a b", "a\n", "aé", "\x00", "a\xff", "@", "[", "`", "z", "{",
		strings.Repeat("a", api.MaxWord+1), strings.Repeat("aA", api.MaxWord), strings.Repeat("1", api.MaxWord+1)}
}

// wordsUpTo returns all words of k generators, not only the reduced ones, up to a length, in shortlex order.
func wordsUpTo(k, length int) []string {
	all := []string{""}
	for start := 0; length > 0; length-- {
		end := len(all)
		for _, w := range all[start:end] {
			for i := range 2 * k {
				all = append(all, w+string(word.Letter(i)))
			}
		}
		start = end
	}
	return all
}

// reducedUpTo returns the freely reduced words of k generators up to a length, in shortlex order.
func reducedUpTo(k, length int) []string {
	return slices.DeleteFunc(wordsUpTo(k, length), func(w string) bool { return slowReduce(w) != w })
}

// randomWord returns a word of k generators of a length; letters are picked so that runs and cancellations are frequent.
func randomWord(r *rand.Rand, k, length int) string {
	out := make([]byte, length)
	for i := range out {
		if i > 0 && r.Intn(3) == 0 {
			out[i] = out[r.Intn(i)] ^ byte(32*r.Intn(2))
		} else {
			out[i] = word.Letter(r.Intn(2 * k))
		}
	}
	return string(out)
}

// slowReduce removes the first pair of inverse neighbours as long as there is one.
func slowReduce(w string) string {
	for i := 0; i+1 < len(w); {
		if w[i]^w[i+1] == 32 {
			w = w[:i] + w[i+2:]
			i = 0
		} else {
			i++
		}
	}
	return w
}

// P1.1
func TestCheck(t *testing.T) {
	for _, x := range []struct {
		k   int
		w   string
		err api.Errno
	}{
		{1, "", api.OK}, {1, "aA", api.OK}, {2, "abAB", api.OK}, {8, "abcdefghABCDEFGH", api.OK},
		{1, "b", api.ErrForm}, {1, "B", api.ErrForm}, {7, "h", api.ErrForm}, {7, "H", api.ErrForm}, {8, "i", api.ErrForm}, {8, "I", api.ErrForm},
		{2, "a b", api.ErrForm}, {2, "a1", api.ErrForm}, {2, "a\x00", api.ErrForm}, {2, "é", api.ErrForm}, {2, "a^2", api.ErrForm},
		{0, "", api.ErrArg}, {9, "", api.ErrArg}, {-1, "a", api.ErrArg}, {math.MaxInt, "a", api.ErrArg}, {math.MinInt, "?", api.ErrArg},
		{2, strings.Repeat("ab", api.MaxWord/2), api.OK},
		{2, strings.Repeat("a", api.MaxWord+1), api.ErrLimit},
		{2, strings.Repeat("?", api.MaxWord), api.ErrForm},
		{2, strings.Repeat("?", api.MaxWord+1), api.ErrLimit},
		{9, strings.Repeat("a", api.MaxWord+1), api.ErrArg},
		{9, "?", api.ErrArg},
	} {
		if err := word.Check(x.k, x.w); err != x.err {
			t.Errorf("Check(%d, %.20q) = %d, not %d", x.k, x.w, err, x.err)
		}
	}
}

// P1.1
func TestIndexAndLetter(t *testing.T) {
	const all = "aAbBcCdDeEfFgGhH"
	for b := range 256 {
		if i := word.Index(byte(b)); i != strings.IndexByte(all, byte(b)) {
			t.Errorf("Index(%d) = %d", b, i)
		}
	}
	for i := range 16 {
		if c := word.Letter(i); c != all[i] {
			t.Errorf("Letter(%d) = %q", i, c)
		}
	}
	for _, i := range []int{-1, 16, 17, 255, 256, math.MaxInt, math.MinInt} {
		if c := word.Letter(i); c != 0 {
			t.Errorf("Letter(%d) = %q", i, c)
		}
	}
}

// P1.1
func TestInverse(t *testing.T) {
	for _, x := range [][2]string{{"", ""}, {"a", "A"}, {"aB", "bA"}, {"aA", "aA"}, {"abcH", "hCBA"}} {
		if w := word.Inverse(x[0]); w != x[1] {
			t.Errorf("Inverse(%q) = %q", x[0], w)
		}
	}
	long := strings.Repeat("ab", api.MaxWord/2)
	if word.Inverse(long) != strings.Repeat("BA", api.MaxWord/2) {
		t.Error("the inverse of a long word")
	}
}

// P1.1
func TestReduce(t *testing.T) {
	for _, x := range [][2]string{{"", ""}, {"aA", ""}, {"Aa", ""}, {"abBAb", "b"}, {"aAa", "a"}, {"aa", "aa"}, {"ab", "ab"}, {"abAB", "abAB"}, {"hgGH", ""}, {"abBAaA", ""}, {"AabB", ""}} {
		if w := word.Reduce(x[0]); w != x[1] {
			t.Errorf("Reduce(%q) = %q", x[0], w)
		}
	}
	for _, w := range wordsUpTo(2, 6) {
		if word.Reduce(w) != slowReduce(w) {
			t.Errorf("Reduce(%q) = %q", w, word.Reduce(w))
		}
	}
	half := strings.Repeat("ab", api.MaxWord/4)
	if w := word.Reduce(half + word.Inverse(half)); w != "" {
		t.Error("a long trivial word leaves", len(w))
	}
	if w := word.Reduce(half + half); w != half+half {
		t.Error("a long reduced word leaves", len(w))
	}
}

// P1.1
func TestCompare(t *testing.T) {
	for _, x := range []struct {
		u, v string
		sign int
	}{
		{"", "", 0}, {"", "a", -1}, {"a", "", 1}, {"b", "aa", -1}, {"A", "b", -1}, {"a", "A", -1}, {"B", "b", 1}, {"B", "c", -1}, {"ab", "ab", 0}, {"ab", "aB", -1}, {"Aa", "aH", 1}, {"aA", "", 1},
	} {
		if sign := word.Compare(x.u, x.v); sign != x.sign {
			t.Errorf("Compare(%q, %q) = %d", x.u, x.v, sign)
		}
	}
	long := strings.Repeat("a", api.MaxWord-1)
	if word.Compare(long+"a", long+"A") != -1 || word.Compare(long, long+"a") != -1 || word.Compare(long, long) != 0 {
		t.Error("long words")
	}
}

// P1.1
func TestText(t *testing.T) {
	for _, x := range [][2]string{
		{"", "1"}, {"a", "a"}, {"aaBa", "a^2 B a"}, {"aA", "a A"}, {"BBB", "B^3"}, {"aabb", "a^2 b^2"}, {"hhHH", "h^2 H^2"},
		{strings.Repeat("a", api.MaxWord), "a^100000"}, {strings.Repeat("a", 10) + "b", "a^10 b"},
		{strings.Repeat("ab", api.MaxWord/2), strings.Repeat(" a b", api.MaxWord/2)[1:]},
	} {
		if s := word.Text(x[0]); s != x[1] {
			t.Errorf("Text(%.20q) = %.20q", x[0], s)
		}
	}
}

// P1.1, P1.2: of strings that are no words of 8 generators all functions but Check, Index, Letter and Parse return zero values, Power also an error.
func TestStrangers(t *testing.T) {
	for _, s := range strangers() {
		core, conj := word.Cyclic(s)
		root, number := word.Root(s)
		if word.Inverse(s)+word.Reduce(s)+word.Text(s)+word.Form(s)+core+conj+root != "" || number != 0 {
			t.Errorf("%.20q has values", s)
		}
		if word.Compare(s, "a") != 0 || word.Compare("a", s) != 0 || word.Compare(s, s+s) != 0 {
			t.Errorf("%.20q is compared", s)
		}
		for _, u := range []string{"", "a", s} {
			if x, is := word.Conjugate(s, u); x != "" || is {
				t.Errorf("Conjugate(%.20q, %.20q)", s, u)
			}
			if x, is := word.Conjugate(u, s); x != "" || is {
				t.Errorf("Conjugate(%.20q, %.20q)", u, s)
			}
		}
		for _, n := range []int{0, 1, -1, 5, math.MaxInt, math.MinInt} {
			if w, err := word.Power(s, n); w != "" || err != api.ErrForm {
				t.Errorf("Power(%.20q, %d) = %.20q, %d", s, n, w, err)
			}
		}
	}
}
