package word_test

import (
	"math"
	"math/rand"
	"strconv"
	"strings"
	"testing"

	"cayley/api"
	"cayley/word"
)

// expect calls Parse and compares its results.
func expect(t *testing.T, k int, text, value string, err api.Errno) {
	t.Helper()
	if w, e := word.Parse(k, text); w != value || e != err {
		t.Errorf("Parse(%d, %.40q) = %.40q, %d, not %.40q, %d", k, text, w, e, value, err)
	}
}

// P1.2
func TestParseValues(t *testing.T) {
	for _, x := range []struct {
		k           int
		text, value string
	}{
		{2, "(ab)^2 [a,b]^-1 1", "ababbaBA"}, {2, "[a,b]", "abAB"}, {1, "1", ""}, {1, "11", ""}, {1, "a", "a"}, {1, "A", "A"}, {1, "a1A", ""}, {8, "hH gG", ""}, {8, "abcdefgh", "abcdefgh"},
		{2, "a^2", "aa"}, {2, "a^-2", "AA"}, {2, "A^-2", "aa"}, {2, "a^0", ""}, {2, "a^-0", ""}, {2, "a^000002", "aa"}, {2, "a^-000002", "AA"}, {2, "a^12", "aaaaaaaaaaaa"}, {2, "a^2b", "aab"}, {2, "a^2 1", "aa"}, {2, "a^1 1", "a"}, {2, "1^5", ""}, {2, "1^-999999", ""}, {2, "(aA)^999999", ""},
		{2, "  a ^ -2 b ", "AAb"}, {2, " ( a b ) ^ 2 ", "abab"}, {2, "[ a , b ] ^ -1", "baBA"}, {2, "[a,b]^2", "abABabAB"}, {2, "(a)", "a"}, {2, "((a)b)^-1", "BA"}, {2, "(baB)^3", "baaaB"}, {2, "(baB)^-1", "bAB"},
		{2, "[a,a]", ""}, {2, "[a,1]", ""}, {2, "[ab,b]", "abABbB"[:4]}, {3, "[[a,b],c]", "abABcbaBAC"}, {3, "[a,[b,c]]", "abcBCAcbCB"}, {2, "[a^2,(ab)^-1]", word.Reduce("aa" + "BA" + "AA" + "ab")}, {2, "a[a,b]b", "aabABb"[:4]},
	} {
		expect(t, x.k, x.text, word.Reduce(x.value), api.OK)
	}
}

// P1.2
func TestParseForm(t *testing.T) {
	for _, text := range []string{
		"", " ", "   ", "^", "^2", "a^", "a^ ", "a^b", "a^-", "a^--1", "a^+1", "a^- 1", "a^1 2", "a^2^2", "a^^2", "a^1234567", "a^0000001", "a^-1000000", "a^1.5", "-1", "2", "0", "a0", "a2", "a-1",
		"(", ")", "()", "( )", "(a", "a)", "(a))", "((a)", ")a(", "(^2)", "(a^)", "(a,b)", "a,b", ",",
		"[", "]", "[]", "[,]", "[a]", "[a,]", "[,a]", "[a,b", "a,b]", "[a,b,a]", "[a b]", "[a,b)", "(a]", "([a,b)]", "[(a,b)]", "[(a],b)", "[a,(b])", "[1,(),b]",
		"a\t", "a\n", "a\x00b", "\x00", "c", "C", "aé", "a_b", "a*b", "a=b", "a;b", "i", "z",
	} {
		expect(t, 2, text, "", api.ErrForm)
	}
	expect(t, 1, "b", "", api.ErrForm)
	expect(t, 7, "h", "", api.ErrForm)
	expect(t, 8, "i", "", api.ErrForm)
}

// P1.2
func TestParseArguments(t *testing.T) {
	for _, k := range []int{0, -1, 9, math.MaxInt, math.MinInt} {
		for _, text := range []string{"a", "", "?", strings.Repeat("a", api.MaxWord+1)} {
			expect(t, k, text, "", api.ErrArg)
		}
	}
}

// P1.2
func TestParseBrackets(t *testing.T) {
	deep := func(n int, open, in, shut string) string {
		return strings.Repeat(open, n) + in + strings.Repeat(shut, n)
	}
	for n := range 22 { // the innermost of 21 brackets stands within 20 others
		expect(t, 2, deep(n, "(", "ab", ")"), "ab", api.OK)
		expect(t, 2, deep(n, "[1,", "a", "]"), map[bool]string{true: "a"}[n == 0], api.OK)
	}
	for _, n := range []int{22, 23, 100, 10000, 1 << 16, 1 << 20} {
		expect(t, 2, deep(n, "(", "ab", ")"), "", api.ErrLimit)
		expect(t, 2, deep(n, "[1,", "a", "]"), "", api.ErrLimit)
		expect(t, 2, deep(n, "[", "a", ",1]"), "", api.ErrLimit)
		expect(t, 2, deep(n, "(", "ab", ")")+"c", "", api.ErrForm)
		expect(t, 2, deep(n, "(", "ab", ")")+")", "", api.ErrForm)
		expect(t, 2, strings.Repeat("(", n), "", api.ErrForm)
	}
	expect(t, 2, deep(20, "(", "[a,b]", ")"), "abAB", api.OK)
	expect(t, 2, deep(21, "(", "[a,b]", ")"), "", api.ErrLimit)
	expect(t, 2, strings.Repeat("(a)", 1000), strings.Repeat("a", 1000), api.OK)
}

// P1.2: a text's length.
func TestParseLength(t *testing.T) {
	const n = 100000
	blanks := strings.Repeat(" ", n)
	expect(t, 2, "a"+blanks[1:], "a", api.OK)
	expect(t, 2, blanks[1:]+"a", "a", api.OK)
	expect(t, 2, "a"+blanks, "", api.ErrLimit)
	expect(t, 2, blanks+"a", "", api.ErrLimit)
	expect(t, 2, blanks+"a?", "", api.ErrForm)
	expect(t, 2, blanks, "", api.ErrForm)
	expect(t, 2, blanks+blanks, "", api.ErrForm)
	expect(t, 2, strings.Repeat("1", n), "", api.OK)
	expect(t, 2, strings.Repeat("1", n+1), "", api.ErrLimit)
	expect(t, 2, strings.Repeat("ab", n/2), strings.Repeat("ab", n/2), api.OK)
	expect(t, 2, strings.Repeat("aA", n/2), "", api.OK)
	expect(t, 2, strings.Repeat("a", n+1), "", api.ErrLimit)
	expect(t, 2, strings.Repeat("a", 10*n)+"(", "", api.ErrForm)
}

// P1.2: the letters of values, of which each part has its own, ahead of its reduction.
func TestParseLetters(t *testing.T) {
	a := func(n int) string { return strings.Repeat("a", n) }
	for _, x := range []struct {
		text, value string
		err         api.Errno
	}{
		{"a^100000", a(100000), api.OK}, {"a^-100000", strings.ToUpper(a(100000)), api.OK}, {"a^100001", "", api.ErrLimit}, {"a^-100001", "", api.ErrLimit}, {"a^999999", "", api.ErrLimit}, {"(a^999)^999999", "", api.ErrLimit},
		{"a^99999 a", a(100000), api.OK}, {"a^100000 a", "", api.ErrLimit}, {"a^100000 A", "", api.ErrLimit}, {"a^50000 A^50000", "", api.OK}, {"a^50000 A^50001", "", api.ErrLimit}, {"a^50000 A^50000 a", "", api.ErrLimit}, {"a^40000 A^40000 a^20000", a(20000), api.OK}, {"a^40000 A^40000 a^20001", "", api.ErrLimit}, {"(a^50000 A^50000) a^100000", a(100000), api.OK}, {"a^100000 1", a(100000), api.OK},
		{"(a^50000)^2", a(100000), api.OK}, {"(a^50001)^2", "", api.ErrLimit}, {"(a^100000)^0", "", api.OK}, {"(a^100001)^0", "", api.ErrLimit}, {"(a^100000)^-1", strings.ToUpper(a(100000)), api.OK},
		{"(baB)^33333", "b" + a(33333) + "B", api.OK}, {"(baB)^33334", "", api.ErrLimit}, {"(baB)^-33334", "", api.ErrLimit}, {"(aA)^100000", "", api.OK}, {"(aAb)^2", "bb", api.OK},
		{"[a^25000,a^25000]", "", api.OK}, {"[a^25001,a^25000]", "", api.ErrLimit}, {"[a^25000,a^25001]", "", api.ErrLimit}, {"[a^50000,1]", "", api.OK}, {"[a^50001,1]", "", api.ErrLimit}, {"[1,a^50001]", "", api.ErrLimit}, {"[a^50001,1]^0", "", api.ErrLimit},
		{"[a^49999,b]", a(49999) + "b" + strings.ToUpper(a(49999)) + "B", api.OK}, {"[a^49999,b] a", "", api.ErrLimit},
		{"a^999999 (", "", api.ErrForm}, {"a^999999 ?", "", api.ErrForm}, {"(a^999999", "", api.ErrForm}, {"[a^999999]", "", api.ErrForm}, {"a^999999 a^9999999", "", api.ErrForm},
	} {
		expect(t, 2, x.text, x.value, x.err)
	}
}

// P1.2: a text that asks for many long values.
func TestParseMuch(t *testing.T) {
	expect(t, 2, strings.Repeat("(a^99999)^0", 9000), "", api.OK)
	expect(t, 2, strings.Repeat("[a^25000,b^25000]^0", 5000), "", api.OK)
	expect(t, 2, strings.Repeat("((((((((((a^99999))))))))))^0", 3000), "", api.OK)
}

// randomExpression returns an expression and its value ahead of the reduction.
func randomExpression(r *rand.Rand, depth int) (text, value string) {
	for range 1 + r.Intn(3) {
		t, v := randomFactor(r, depth)
		text += t + blanks(r)
		value += v
	}
	return blanks(r) + text, value
}

func randomFactor(r *rand.Rand, depth int) (text, value string) {
	switch kind := r.Intn(6); {
	case kind == 0:
		text = "1"
	case kind == 1 && depth > 0:
		text, value = randomExpression(r, depth-1)
		text = "(" + text + ")"
	case kind == 2 && depth > 0:
		text, value = randomExpression(r, depth-1)
		t, v := randomExpression(r, depth-1)
		text = "[" + text + "," + t + "]"
		value += v + word.Inverse(value) + word.Inverse(v)
	default:
		value = randomWord(r, 3, 1)
		text = value
	}
	if r.Intn(3) > 0 {
		return text, value
	}
	n := r.Intn(7) - 3
	text += blanks(r) + "^" + blanks(r) + strconv.Itoa(n) + " " // so that a factor 1 that follows is none of its digits
	if n < 0 {
		value, n = word.Inverse(value), -n
	}
	return text, strings.Repeat(value, n)
}

func blanks(r *rand.Rand) string {
	return strings.Repeat(" ", max(0, r.Intn(5)-2))
}

// P1.2
func TestParseRandomExpressions(t *testing.T) {
	r := rand.New(rand.NewSource(2))
	for range 3000 {
		text, value := randomExpression(r, 3)
		expect(t, 3, text, slowReduce(value), api.OK)
	}
}

// P1.2: whatever bytes a text has, Parse returns, with a value only if there is no error.
func TestParseRandomTexts(t *testing.T) {
	r := rand.New(rand.NewSource(3))
	for range 20000 {
		text := make([]byte, r.Intn(12))
		for i := range text {
			text[i] = "aAbB11^^-(()),[[]],, 023"[r.Intn(24)]
		}
		w, err := word.Parse(2, string(text))
		if err != api.OK && w != "" || err == api.OK && word.Reduce(w) != w || err != api.OK && err != api.ErrForm && err != api.ErrLimit {
			t.Errorf("Parse(2, %q) = %q, %d", text, w, err)
		}
	}
}
