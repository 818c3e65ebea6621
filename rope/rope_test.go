package rope_test

import (
	"math"
	"math/rand"
	"reflect"
	"slices"
	"strings"
	"testing"

	"cayley/api"
	"cayley/rope"
)

type nodes = []api.RopeNode

func leaf(w string) api.RopeNode         { return api.RopeNode{Word: w} }
func join(left, right int) api.RopeNode  { return api.RopeNode{Left: left, Right: right} }
func power(base, times int) api.RopeNode { return api.RopeNode{Left: base, Times: times} }
func full(left, right, times int) api.RopeNode {
	return api.RopeNode{Left: left, Right: right, Times: times}
}

// example is the rope of the chapter's examples.
func example() nodes {
	return nodes{leaf("ab"), power(0, 3), join(1, 0)}
}

// plain returns the word of a valid rope by the definition.
func plain(r nodes) string {
	words := make([]string, len(r)+1)
	for i, node := range r {
		switch {
		case node.Word != "":
			words[i+1] = node.Word
		case node.Times != 0:
			words[i+1] = strings.Repeat(words[node.Left+1], node.Times)
		default:
			words[i+1] = words[node.Left+1] + words[node.Right+1]
		}
	}
	return words[len(r)]
}

// randomWord returns a word of the first letters.
func randomWord(r *rand.Rand, letters, length int) string {
	out := make([]byte, length)
	for i := range out {
		out[i] = "aAbBcCdDeEfFgGhH"[r.Intn(letters)]
	}
	return string(out)
}

// randomRope returns a valid rope of some nodes, of words of at most most letters; some nodes may be unused.
func randomRope(r *rand.Rand, count, most int) nodes {
	var out nodes
	var lengths []int
	for len(out) < count {
		node, length := leaf(randomWord(r, 1+r.Intn(5), 1+r.Intn(4))), 0
		if n := len(out); n > 0 {
			late := func() int { return max(0, n-1-r.Intn(4)) }
			switch r.Intn(5) {
			case 0:
				node = power(late(), 1+r.Intn(4))
				length = lengths[node.Left] * node.Times
			case 1, 2, 3:
				node = join(late(), late())
				length = lengths[node.Left] + lengths[node.Right]
			}
		}
		if length == 0 {
			length = len(node.Word)
		}
		if length <= most {
			out, lengths = append(out, node), append(lengths, length)
		}
	}
	return out
}

// validRopes are edge cases of what is valid.
func validRopes() []nodes {
	long := nodes{leaf("a")}
	for len(long) < api.MaxRope {
		long = append(long, power(len(long)-1, 1))
	}
	doubled := nodes{leaf("a")}
	for range 60 {
		doubled = append(doubled, join(len(doubled)-1, len(doubled)-1))
	}
	return []nodes{
		nil, {}, example(), example()[:2], {leaf("a")}, {leaf("abcdefghABCDEFGH")}, {leaf("aA")}, {leaf(strings.Repeat("h", api.MaxRopeLeaf))},
		{leaf("a"), join(0, 0)}, {leaf("a"), power(0, 1)}, {leaf("a"), leaf("b")}, {leaf("a"), leaf("b"), join(1, 0)},
		{leaf("a"), power(0, 1<<60)}, {leaf("abcd"), power(0, 1<<58)}, {leaf("a"), power(0, 1<<60), leaf("b")},
		{leaf("a"), power(0, 1<<59), join(1, 1)}, {leaf("a"), power(0, 1<<60-1), join(1, 0)}, {leaf("abc"), power(0, (1<<60-1)/3), power(1, 1)},
		long, doubled,
	}
}

// invalidRopes are no ropes, each for one reason.
func invalidRopes() []nodes {
	a := leaf("a")
	out := []nodes{
		{api.RopeNode{}}, {join(0, 0)}, {power(0, 2)}, {power(-1, 1)}, {a, power(1, 1)}, {a, power(2, 1), a}, {a, join(1, 0)}, {a, join(0, 1)}, {a, join(2, 0), a},
		{a, join(-1, 0)}, {a, join(0, -1)}, {a, join(math.MaxInt, 0)}, {a, join(0, math.MinInt)}, {a, power(math.MinInt, 1)}, {a, power(math.MaxInt, 1)},
		{a, power(0, -1)}, {a, power(0, math.MinInt)}, {a, a, full(0, 1, 2)}, {a, full(0, -1, 2)}, {a, full(0, math.MaxInt, 1)},
		{leaf("i")}, {leaf("I")}, {leaf("1")}, {leaf(" ")}, {leaf("a b")}, {leaf("a\x00")}, {leaf("é")}, {leaf("a\xff")}, {leaf(strings.Repeat("a", api.MaxRopeLeaf+1))},
		{a, power(0, 1<<60+1)}, {leaf("ab"), power(0, 1<<59+1)}, {leaf("abc"), power(0, 1<<60/3+1)}, {a, power(0, math.MaxInt)}, {leaf("abcdefgh"), power(0, 1<<61)}, {leaf("abcd"), power(0, 1<<62)}, {leaf("ab"), power(0, math.MaxInt)},
		{a, power(0, 1<<60), join(0, 1)}, {a, power(0, 1<<60), join(1, 1)}, {a, power(0, 1<<60), power(1, 2)}, {a, power(0, 1<<60), power(1, 16)}, {a, power(0, 1<<32), power(1, 1<<32)},
		{a, power(0, 1<<60), join(1, 0), a}, {leaf("i"), a}, {a, api.RopeNode{Times: -1}, a},
		slices.Repeat(nodes{a}, api.MaxRope+1),
	}
	for _, fields := range [][3]int{{1, 0, 0}, {0, 1, 0}, {0, 0, 1}, {-1, 0, 0}, {0, -1, 0}, {0, 0, -1}} {
		node := full(fields[0], fields[1], fields[2])
		node.Word = "a"
		out = append(out, nodes{a, a, node})
	}
	return out
}

// P2.1
func TestCheck(t *testing.T) {
	for _, r := range validRopes() {
		if err := rope.Check(r); err != api.OK {
			t.Errorf("Check(%.10v) = %d", r, err)
		}
	}
	for _, r := range invalidRopes() {
		if err := rope.Check(r); err != api.ErrRope {
			t.Errorf("Check(%.10v) = %d", r, err)
		}
	}
}

// P2.1, P2.2, P2.3, P2.4: ErrRope first, in each argument, and zero values with it.
func TestInvalidRopes(t *testing.T) {
	big := nodes{leaf("a"), power(0, 1<<60)}
	for _, r := range invalidRopes() {
		n, e1 := rope.Len(r)
		c, e2 := rope.At(r, -1)
		w, e3 := rope.Word(r)
		v, e4 := rope.Inverse(r)
		s, e5 := rope.Slice(r, 1, 0)
		p, e6 := rope.Power(r, math.MaxInt)
		l, e7 := rope.Sums(r)
		if n != 0 || c != 0 || w != "" || v != nil || s != nil || p != nil || l != nil {
			t.Errorf("%.10v has values", r)
		}
		for i, err := range []api.Errno{e1, e2, e3, e4, e5, e6, e7} {
			if err != api.ErrRope {
				t.Errorf("%.10v: error %d of the call %d", r, err, i)
			}
		}
		for _, pair := range [][2]nodes{{r, big}, {big, r}, {r, r}, {r, nil}, {nil, r}} {
			if out, err := rope.Concat(pair[0], pair[1]); out != nil || err != api.ErrRope {
				t.Errorf("Concat of %.10v: %d", pair, err)
			}
			if i, err := rope.Differ(pair[0], pair[1]); i != 0 || err != api.ErrRope {
				t.Errorf("Differ of %.10v: %d, %d", pair, i, err)
			}
		}
	}
}

// P2.1
func TestLenAndWord(t *testing.T) {
	for _, x := range []struct {
		r nodes
		w string
	}{
		{nil, ""}, {nodes{}, ""}, {example(), "abababab"}, {example()[:2], "ababab"}, {example()[:1], "ab"}, {nodes{leaf("a"), leaf("B")}, "B"}, {nodes{leaf("aA")}, "aA"},
		{nodes{leaf("a"), leaf("b"), join(1, 0), power(2, 2), join(3, 0)}, "babaa"}, {nodes{leaf("a"), power(0, 1), power(1, 1)}, "a"},
		{nodes{leaf("a"), power(0, 1<<60), leaf("h"), power(2, 3)}, "hhh"},
		{nodes{leaf("ab"), power(0, api.MaxWord/2)}, strings.Repeat("ab", api.MaxWord/2)},
	} {
		if w, err := rope.Word(x.r); err != api.OK || w != x.w {
			t.Errorf("Word(%v) = %.20q, %d", x.r, w, err)
		}
		if n, err := rope.Len(x.r); err != api.OK || n != len(x.w) {
			t.Errorf("Len(%v) = %d, %d", x.r, n, err)
		}
	}
	for _, x := range []struct {
		r nodes
		n int
	}{
		{nodes{leaf("a"), power(0, api.MaxWord+1)}, api.MaxWord + 1}, {nodes{leaf("a"), power(0, api.MaxWord), join(1, 0)}, api.MaxWord + 1}, {nodes{leaf("a"), power(0, 1<<60)}, 1 << 60},
		{nodes{leaf("a"), power(0, 1<<59), join(1, 1)}, 1 << 60}, {nodes{leaf("abc"), power(0, 1<<50), join(1, 0)}, 3<<50 + 3},
	} {
		if n, err := rope.Len(x.r); err != api.OK || n != x.n {
			t.Errorf("Len(%v) = %d, %d", x.r, n, err)
		}
		if w, err := rope.Word(x.r); err != api.ErrLimit || w != "" {
			t.Errorf("Word(%v) = %.20q, %d", x.r, w, err)
		}
	}
	r := rand.New(rand.NewSource(1))
	for i := range 500 {
		a := randomRope(r, 1+i%40, 2000)
		w, err := rope.Word(a)
		n, _ := rope.Len(a)
		if err != api.OK || w != plain(a) || n != len(w) {
			t.Errorf("Word(%v) = %.20q, %d", a, w, err)
		}
	}
}

// P2.1: a chain of the greatest depth below a node that is used as often as there are letters.
func TestSharedChain(t *testing.T) {
	r := nodes{leaf("ab")}
	for len(r) < api.MaxRope-20 {
		r = append(r, power(len(r)-1, 1))
	}
	for range 15 {
		r = append(r, join(len(r)-1, len(r)-1))
	}
	r = append(r, join(len(r)-1, len(r)-2))
	want := strings.Repeat("ab", 3<<14)
	if w, err := rope.Word(r); err != api.OK || w != want {
		t.Errorf("%d letters, %d", len(w), err)
	}
	if c, err := rope.At(r, len(want)-1); err != api.OK || c != 'b' {
		t.Errorf("the last letter: %c, %d", c, err)
	}
	if i, err := rope.Differ(r, nodes{leaf("ab"), power(0, 3<<14)}); err != api.OK || i != -1 {
		t.Errorf("Differ: %d, %d", i, err)
	}
}

// P2.1
func TestAt(t *testing.T) {
	for _, x := range []struct {
		r nodes
		i int
		c byte
	}{
		{example(), 0, 'a'}, {example(), 5, 'b'}, {example(), 7, 'b'}, {example(), 8, 0}, {example(), -1, 0}, {example(), math.MaxInt, 0}, {example(), math.MinInt, 0}, {example(), 1 << 32, 0},
		{nil, 0, 0}, {nil, -1, 0}, {nodes{leaf("H")}, 0, 'H'}, {nodes{leaf("H")}, 1, 0},
		{nodes{leaf("abc"), power(0, 1<<58), leaf("D"), join(1, 2)}, 3 << 58, 'D'}, {nodes{leaf("abc"), power(0, 1<<58), leaf("D"), join(1, 2)}, 3<<58 - 1, 'c'}, {nodes{leaf("abc"), power(0, 1<<58), leaf("D"), join(1, 2)}, 3<<58 + 1, 0},
		{nodes{leaf("a"), power(0, 1<<60-1), leaf("b"), join(2, 1)}, 0, 'b'}, {nodes{leaf("a"), power(0, 1<<60-1), leaf("b"), join(2, 1)}, 1<<60 - 1, 'a'}, {nodes{leaf("a"), power(0, 1<<60-1), leaf("b"), join(2, 1)}, 1 << 60, 0},
	} {
		want := api.OK
		if x.c == 0 {
			want = api.ErrArg
		}
		if c, err := rope.At(x.r, x.i); c != x.c || err != want {
			t.Errorf("At(%v, %d) = %q, %d", x.r, x.i, c, err)
		}
	}
	r := rand.New(rand.NewSource(2))
	for i := range 100 {
		a := randomRope(r, 1+i%30, 200)
		isWord(t, a, plain(a))
	}
}

// isWord tests a rope with a word, in Check, Len, Word, and At of each index.
func isWord(t *testing.T, r nodes, w string) {
	t.Helper()
	if rope.Check(r) != api.OK {
		t.Fatalf("%v is not valid", r)
	}
	if got, err := rope.Word(r); err != api.OK || got != w {
		t.Fatalf("the word of %v is %.20q, %d, not %.20q", r, got, err, w)
	}
	for i := range len(w) {
		if c, err := rope.At(r, i); err != api.OK || c != w[i] {
			t.Fatalf("At(%v, %d) = %q, %d, not %q", r, i, c, err, w[i])
		}
	}
	if _, err := rope.At(r, len(w)); err != api.ErrArg {
		t.Fatalf("At(%v, %d): %d", r, len(w), err)
	}
}

// P2.1
func TestOf(t *testing.T) {
	r := rand.New(rand.NewSource(3))
	for n := range 1200 {
		w := randomWord(r, 16, n)
		out, err := rope.Of(w)
		if err != api.OK || len(out) > n/50+1 || n == 0 && len(out) != 0 {
			t.Fatalf("Of a word of %d letters: %d nodes, %d", n, len(out), err)
		}
		if n < 250 {
			isWord(t, out, w)
		} else if back, err := rope.Word(out); err != api.OK || back != w {
			t.Fatalf("Word of Of of a word of %d letters: %d", n, err)
		}
	}
	long := randomWord(r, 16, api.MaxWord)
	out, err := rope.Of(long)
	if back, _ := rope.Word(out); err != api.OK || back != long || len(out) > api.MaxWord/50+1 {
		t.Errorf("Of the longest word: %d nodes, %d", len(out), err)
	}
	for _, w := range []string{"a1", "i", " ", "é", "ab\n", long + "a", "\x00"} {
		if out, err := rope.Of(w); len(out) != 0 || err != api.ErrArg {
			t.Errorf("Of(%.20q): %d nodes, %d", w, len(out), err)
		}
	}
}

// R2, R6: no function changes its arguments, and no result shares memory with them.
func TestPurity(t *testing.T) {
	a, b := example(), nodes{leaf("c"), leaf("D"), join(0, 1)}
	calls := map[string]func() nodes{
		"Concat":     func() nodes { out, _ := rope.Concat(a, b); return out },
		"Concat, a":  func() nodes { out, _ := rope.Concat(a, nil); return out },
		"Concat, b":  func() nodes { out, _ := rope.Concat(nil, b); return out },
		"Power":      func() nodes { out, _ := rope.Power(a, 2); return out },
		"Power, 1":   func() nodes { out, _ := rope.Power(a, 1); return out },
		"Power, -1":  func() nodes { out, _ := rope.Power(a, -1); return out },
		"Inverse":    func() nodes { out, _ := rope.Inverse(a); return out },
		"Slice":      func() nodes { out, _ := rope.Slice(a, 1, 7); return out },
		"Slice, all": func() nodes { out, _ := rope.Slice(a, 0, 8); return out },
		"Of":         func() nodes { out, _ := rope.Of(plain(a)); return out },
		"Differ, Sums": func() nodes {
			rope.Differ(a, b)
			rope.Sums(a)
			return nodes{{}}
		},
	}
	for name, call := range calls {
		first := call()
		kept := slices.Clone(first)
		if !reflect.DeepEqual(a, example()) || b[2] != join(0, 1) {
			t.Fatalf("%s: changes an argument", name)
		}
		if again := call(); !slices.Equal(again, kept) {
			t.Errorf("%s: %v, and then %v", name, kept, again)
		}
		for i := range a {
			a[i], b[i] = leaf("h"), leaf("h")
		}
		if !slices.Equal(first, kept) {
			t.Errorf("%s: shares memory with an argument", name)
		}
		a, b = example(), nodes{leaf("c"), leaf("D"), join(0, 1)}
	}
}
