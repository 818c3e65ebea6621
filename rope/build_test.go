package rope_test

import (
	"math"
	"math/rand"
	"slices"
	"strings"
	"testing"

	"cayley/api"
	"cayley/rope"
	"cayley/word"
)

// chain returns a valid rope of some nodes, each of which uses the one ahead of it.
func chain(count int) nodes {
	r := nodes{leaf("ab")}
	for len(r) < count {
		r = append(r, power(len(r)-1, 1))
	}
	return r
}

// fibonacci returns a rope of some nodes whose words, from the third on, are those of the two nodes ahead.
func fibonacci(count int) nodes {
	r := nodes{leaf("b"), leaf("a")}
	for len(r) < count {
		r = append(r, join(len(r)-1, len(r)-2))
	}
	return r
}

// P2.2
func TestConcat(t *testing.T) {
	r := rand.New(rand.NewSource(11))
	for i := range 200 {
		a, b := randomRope(r, i%12, 60), randomRope(r, i%17, 60)
		out, err := rope.Concat(a, b)
		if err != api.OK || len(out) > len(a)+len(b)+1 {
			t.Fatalf("Concat(%v, %v): %d nodes, %d", a, b, len(out), err)
		}
		isWord(t, out, plain(a)+plain(b))
	}
	half := nodes{leaf("a"), power(0, 1<<59)}
	more := nodes{leaf("a"), power(0, 1<<59), join(1, 0)}
	for _, x := range []struct {
		a, b   nodes
		length int
		err    api.Errno
	}{
		{nil, nil, 0, api.OK}, {half, half, 1 << 60, api.OK}, {half, more, 0, api.ErrLimit}, {more, half, 0, api.ErrLimit}, {nil, more, 1<<59 + 1, api.OK},
		{chain(1999), chain(2000), 4, api.OK}, {chain(2000), chain(2000), 0, api.ErrLimit}, {chain(3999), nil, 2, api.OK}, {nil, chain(3999), 2, api.OK}, {chain(4000), nil, 0, api.ErrLimit}, {nil, chain(4000), 0, api.ErrLimit}, {chain(4000), chain(4000), 0, api.ErrLimit},
	} {
		out, err := rope.Concat(x.a, x.b)
		if n, _ := rope.Len(out); err != x.err || n != x.length || rope.Check(out) != api.OK || err != api.OK && len(out) != 0 || len(out) > len(x.a)+len(x.b)+1 {
			t.Errorf("Concat of %d and %d nodes: %d nodes of %d letters, %d", len(x.a), len(x.b), len(out), n, err)
		}
	}
}

// P2.2
func TestPower(t *testing.T) {
	r := rand.New(rand.NewSource(12))
	for i := range 200 {
		a := randomRope(r, i%12, 30)
		for n := -4; n <= 4; n++ {
			want := strings.Repeat(plain(a), max(n, 0)) + strings.Repeat(word.Inverse(plain(a)), max(-n, 0))
			out, err := rope.Power(a, n)
			if err != api.OK || len(out) > len(a)+1 || n == 0 && len(out) != 0 {
				t.Fatalf("Power(%v, %d): %d nodes, %d", a, n, len(out), err)
			}
			isWord(t, out, want)
		}
	}
	for _, x := range []struct {
		a      nodes
		n      int
		length int
		err    api.Errno
	}{
		{nil, 5, 0, api.OK}, {nil, math.MaxInt, 0, api.OK}, {nil, math.MinInt, 0, api.OK}, {nil, 0, 0, api.OK},
		{example(), 1 << 57, 1 << 60, api.OK}, {example(), -1 << 57, 1 << 60, api.OK}, {example(), 1<<57 + 1, 0, api.ErrLimit}, {example(), -1<<57 - 1, 0, api.ErrLimit},
		{example(), math.MaxInt, 0, api.ErrLimit}, {example(), math.MinInt, 0, api.ErrLimit}, {example(), 1 << 61, 0, api.ErrLimit}, {example(), -1 << 61, 0, api.ErrLimit}, {example(), -1 << 62, 0, api.ErrLimit}, {example(), 0, 0, api.OK},
		{nodes{leaf("a")}, 1 << 60, 1 << 60, api.OK}, {nodes{leaf("a")}, 1<<60 + 1, 0, api.ErrLimit}, {nodes{leaf("a")}, math.MinInt, 0, api.ErrLimit}, {nodes{leaf("abc")}, 1 << 60 / 3, 1<<60 - 1, api.OK}, {nodes{leaf("abc")}, 1<<60/3 + 1, 0, api.ErrLimit},
		{nodes{leaf("a"), power(0, 1<<60)}, 1, 1 << 60, api.OK}, {nodes{leaf("a"), power(0, 1<<60)}, -1, 1 << 60, api.OK}, {nodes{leaf("a"), power(0, 1<<60)}, 2, 0, api.ErrLimit}, {nodes{leaf("a"), power(0, 1<<60)}, 0, 0, api.OK},
		{chain(3999), 3, 6, api.OK}, {chain(3999), -3, 6, api.OK}, {chain(4000), 3, 0, api.ErrLimit}, {chain(4000), -1, 0, api.ErrLimit}, {chain(4000), 0, 0, api.ErrLimit},
	} {
		out, err := rope.Power(x.a, x.n)
		if n, _ := rope.Len(out); err != x.err || n != x.length || rope.Check(out) != api.OK || err != api.OK && len(out) != 0 || len(out) > len(x.a)+1 {
			t.Errorf("Power of %d nodes, %d: %d nodes of %d letters, %d", len(x.a), x.n, len(out), n, err)
		}
	}
}

// P2.2
func TestInverse(t *testing.T) {
	v, err := rope.Inverse(example())
	if err != api.OK {
		t.Error(err)
	}
	isWord(t, v, "BABABABA")
	r := rand.New(rand.NewSource(13))
	for i := range 200 {
		a := randomRope(r, i%20, 100)
		out, err := rope.Inverse(a)
		if err != api.OK || len(out) > len(a) {
			t.Fatalf("Inverse(%v): %d nodes, %d", a, len(out), err)
		}
		isWord(t, out, word.Inverse(plain(a)))
		if back, err := rope.Inverse(out); err != api.OK || plain(back) != plain(a) {
			t.Fatalf("the inverse of Inverse(%v) is %v, %d", a, back, err)
		}
	}
	if out, err := rope.Inverse(chain(api.MaxRope)); err != api.OK || plain(out) != "BA" || len(out) > api.MaxRope {
		t.Errorf("the inverse of a rope of the most nodes: %d nodes, %d", len(out), err)
	}
}

// P2.2
func TestSlice(t *testing.T) {
	s, err := rope.Slice(example(), 3, 6)
	if err != api.OK {
		t.Error(err)
	}
	isWord(t, s, "bab")
	r := rand.New(rand.NewSource(14))
	for count := range 14 {
		a := randomRope(r, count, 25)
		w := plain(a)
		for j := range len(w) + 1 {
			for i := range j + 1 {
				out, err := rope.Slice(a, i, j)
				if err != api.OK || len(out) > 8*len(a)+8 {
					t.Fatalf("Slice(%v, %d, %d): %d nodes, %d", a, i, j, len(out), err)
				}
				isWord(t, out, w[i:j])
			}
		}
	}
	for i := range 300 {
		a := randomRope(r, 1+i, 5000)
		w := plain(a)
		start := r.Intn(len(w) + 1)
		end := start + r.Intn(len(w)-start+1)
		out, err := rope.Slice(a, start, end)
		if err != api.OK || len(out) > 8*len(a)+8 || rope.Check(out) != api.OK || plain(out) != w[start:end] {
			t.Fatalf("Slice(%v, %d, %d): %d nodes, %d", a, start, end, len(out), err)
		}
	}
}

// P2.2
func TestSliceErrors(t *testing.T) {
	n := len(plain(example()))
	for _, x := range [][2]int{{-1, 0}, {-1, -1}, {2, 1}, {0, n + 1}, {n + 1, n + 1}, {n, n - 1}, {math.MinInt, math.MaxInt}, {0, math.MaxInt}, {math.MinInt, 0}, {math.MaxInt, math.MinInt}, {0, -1}} {
		if out, err := rope.Slice(example(), x[0], x[1]); err != api.ErrArg || len(out) != 0 {
			t.Errorf("Slice from %d to %d: %v, %d", x[0], x[1], out, err)
		}
	}
	for _, r := range []nodes{nil, example()} {
		for i := range len(plain(r)) + 1 {
			if out, err := rope.Slice(r, i, i); err != api.OK || len(out) != 0 {
				t.Errorf("Slice from %d to %d: %v, %d", i, i, out, err)
			}
		}
	}
	if out, err := rope.Slice(nil, 0, 1); err != api.ErrArg || len(out) != 0 {
		t.Errorf("Slice of no nodes: %v, %d", out, err)
	}
	for _, x := range [][2]int{{0, 2}, {1, 2}, {0, 0}} {
		if out, err := rope.Slice(chain(401), x[0], x[1]); err != api.ErrLimit || len(out) != 0 {
			t.Errorf("Slice of 401 nodes: %v, %d", out, err)
		}
		if out, err := rope.Slice(chain(400), x[0], x[1]); err != api.OK || plain(out) != "ab"[x[0]:x[1]] {
			t.Errorf("Slice of 400 nodes: %v, %d", out, err)
		}
	}
	if out, err := rope.Slice(chain(401), 1, 3); err != api.ErrArg || len(out) != 0 {
		t.Errorf("Slice of 401 nodes behind their end: %v, %d", out, err)
	}
}

// longRopes are valid ropes with words that cannot be expanded.
func longRopes() []nodes {
	nested := nodes{leaf("abC"), leaf("Da")}
	for len(nested) < 36 {
		n := len(nested)
		nested = append(nested, join(n-1, n-2), power(n, 2), join(n+1, n-2))
	}
	wide := nodes{leaf("abcdefgh"), power(0, 1<<50+1), leaf("HG"), power(2, 1<<48-1), join(1, 3), power(4, 101), leaf("b"), join(6, 5)}
	most := nodes{leaf("ab"), power(0, 1<<58), leaf("c"), power(2, 1<<59), join(1, 3)}
	return []nodes{fibonacci(60), nested, wide, most, {leaf("aB"), power(0, 1<<59)}}
}

// someIndices returns indices of a word of n letters: the ends, and others.
func someIndices(r *rand.Rand, n int) []int {
	out := []int{0, 1, n - 2, n - 1, n / 2}
	for range 100 {
		out = append(out, r.Intn(n))
	}
	return out
}

// letter returns a letter of a rope that has it.
func letter(t *testing.T, r nodes, i int) byte {
	t.Helper()
	c, err := rope.At(r, i)
	if err != api.OK {
		t.Fatalf("At %d: %d", i, err)
	}
	return c
}

// P2.2: letters of words that cannot be expanded.
func TestLettersOfLongWords(t *testing.T) {
	r := rand.New(rand.NewSource(15))
	for _, a := range longRopes() {
		n, err := rope.Len(a)
		if err != api.OK {
			t.Fatal(err)
		}
		inverse, _ := rope.Inverse(a)
		for _, i := range someIndices(r, n) {
			if letter(t, inverse, i) != letter(t, a, n-1-i)^32 {
				t.Errorf("%v: the letter %d of the inverse", a, i)
			}
		}
		start := r.Intn(n / 2)
		end := start + 2 + r.Intn(n-start-1)
		for _, ends := range [][2]int{{start, end}, {0, end}, {start, n}, {1, n - 1}, {start, start + 2}, {n/2 - 1, n/2 + 1}} {
			slice, err := rope.Slice(a, ends[0], ends[1])
			if length, _ := rope.Len(slice); err != api.OK || length != ends[1]-ends[0] || len(slice) > 8*len(a)+8 {
				t.Fatalf("%v: Slice from %d to %d: %d nodes of %d letters, %d", a, ends[0], ends[1], len(slice), length, err)
			}
			for _, i := range someIndices(r, ends[1]-ends[0]) {
				if letter(t, slice, i) != letter(t, a, ends[0]+i) {
					t.Errorf("%v: the letter %d of the slice from %d to %d", a, i, ends[0], ends[1])
				}
			}
		}
		if n <= 1<<58 {
			testLongProducts(t, r, a, inverse, n)
		}
	}
}

// testLongProducts tests letters of products and powers of a rope with n letters.
func testLongProducts(t *testing.T, r *rand.Rand, a, inverse nodes, n int) {
	product, err := rope.Concat(a, inverse)
	if err != api.OK {
		t.Fatal(err)
	}
	cube, err := rope.Power(a, 3)
	if err != api.OK {
		t.Fatal(err)
	}
	back, err := rope.Power(a, -3)
	if err != api.OK {
		t.Fatal(err)
	}
	for _, i := range someIndices(r, n) {
		if letter(t, product, i) != letter(t, a, i) || letter(t, product, n+i) != letter(t, inverse, i) {
			t.Errorf("%v: the letter %d of the product", a, i)
		}
		for copy := range 3 {
			if letter(t, cube, copy*n+i) != letter(t, a, i) || letter(t, back, copy*n+i) != letter(t, inverse, i) {
				t.Errorf("%v: the letter %d of the power", a, copy*n+i)
			}
		}
	}
}

// P2.4
func TestSums(t *testing.T) {
	for _, x := range []struct {
		r    nodes
		sums []int
	}{
		{example(), []int{4, 4, 0, 0, 0, 0, 0, 0}}, {nil, make([]int, 8)}, {nodes{leaf("aA")}, make([]int, 8)}, {nodes{leaf("aBBcDDDdh")}, []int{1, -2, 1, -2, 0, 0, 0, 1}}, {nodes{leaf("abcdefghHGFEDCBAEFGH")}, []int{0, 0, 0, 0, -1, -1, -1, -1}},
		{nodes{leaf("a"), power(0, 1<<60)}, []int{1 << 60, 0, 0, 0, 0, 0, 0, 0}}, {nodes{leaf("H"), power(0, 1<<59), join(1, 1)}, []int{0, 0, 0, 0, 0, 0, 0, -1 << 60}},
		{nodes{leaf("aB"), power(0, 1<<58), leaf("bbc"), power(2, 1<<57), join(1, 3), leaf("g")}, []int{0, 0, 0, 0, 0, 0, 1, 0}}, {nodes{leaf("aB"), power(0, 1<<58), leaf("bbc"), power(2, 1<<57), join(1, 3)}, []int{1 << 58, 0, 1 << 57, 0, 0, 0, 0, 0}},
	} {
		if sums, err := rope.Sums(x.r); err != api.OK || !slices.Equal(sums, x.sums) {
			t.Errorf("Sums(%v) = %v, %d", x.r, sums, err)
		}
	}
	r := rand.New(rand.NewSource(16))
	for i := range 300 {
		a := randomRope(r, i%40, 1000)
		want := make([]int, api.MaxGens)
		for _, c := range []byte(plain(a)) {
			want[word.Index(c)/2] += 1 - 2*(word.Index(c)%2)
		}
		if sums, err := rope.Sums(a); err != api.OK || !slices.Equal(sums, want) {
			t.Errorf("Sums(%v) = %v, %d, not %v", a, sums, err, want)
		}
	}
}

// P2.4: additive, multiplied, negated; also for long words.
func TestSumsAreLinear(t *testing.T) {
	sumsOf := func(r nodes, err api.Errno) []int {
		sums, err2 := rope.Sums(r)
		if err != api.OK || err2 != api.OK || len(sums) != api.MaxGens {
			t.Fatalf("%v: %d, %d", r, err, err2)
		}
		return sums
	}
	r := rand.New(rand.NewSource(17))
	var ropes []nodes
	for _, a := range longRopes() {
		if n, _ := rope.Len(a); n <= 1<<57 {
			ropes = append(ropes, a)
		}
	}
	for i := range 20 {
		ropes = append(ropes, randomRope(r, i, 1000))
	}
	for _, a := range ropes {
		sums := sumsOf(a, api.OK)
		for _, b := range ropes {
			both, other := sumsOf(rope.Concat(a, b)), sumsOf(b, api.OK)
			for g := range both {
				if both[g] != sums[g]+other[g] {
					t.Errorf("%v, %v: not additive", a, b)
				}
			}
		}
		for _, n := range []int{-5, -1, 0, 1, 2, 7} {
			for g, sum := range sumsOf(rope.Power(a, n)) {
				if sum != n*sums[g] {
					t.Errorf("%v: not multiplied by %d", a, n)
				}
			}
		}
		for g, sum := range sumsOf(rope.Inverse(a)) {
			if sum != -sums[g] {
				t.Errorf("%v: not negated", a)
			}
		}
	}
}
