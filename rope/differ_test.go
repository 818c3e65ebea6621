package rope_test

import (
	"math/rand"
	"slices"
	"testing"

	"cayley/api"
	"cayley/rope"
)

// plainDiffer returns the index of the first difference of two words by the definition.
func plainDiffer(u, v string) int {
	for i := range max(len(u), len(v)) {
		if i == len(u) || i == len(v) || u[i] != v[i] {
			return i
		}
	}
	return -1
}

// differs tests Differ of two ropes, in both orders.
func differs(t *testing.T, a, b nodes, want int) {
	t.Helper()
	for _, pair := range [][2]nodes{{a, b}, {b, a}} {
		if i, err := rope.Differ(pair[0], pair[1]); err != api.OK || i != want {
			t.Fatalf("Differ(%.300v, %.300v) = %d, %d, not %d", pair[0], pair[1], i, err, want)
		}
	}
}

// must returns a rope that has been built without an error.
func must(r nodes, err api.Errno) nodes {
	if err != api.OK {
		panic(err)
	}
	return r
}

// lengthOf returns the length of a valid rope.
func lengthOf(r nodes) int {
	n, _ := rope.Len(r)
	return n
}

// P2.3
func TestDiffer(t *testing.T) {
	r := rand.New(rand.NewSource(21))
	differs(t, example(), nodes{leaf("ababa")}, 5)
	differs(t, example(), must(rope.Of("abababaA")), 7)
	differs(t, example(), example(), -1)
	differs(t, nil, nodes{}, -1)
	differs(t, nil, example(), 0)
	differs(t, nodes{leaf("a")}, nodes{leaf("A")}, 0)
	for i := range 2000 {
		a, b := randomRope(r, i%15, 40), randomRope(r, (i+r.Intn(3))%15, 40)
		differs(t, a, b, plainDiffer(plain(a), plain(b)))
		differs(t, a, must(rope.Of(plain(a))), -1)
	}
}

// P2.3: behind a part that cannot be expanded, differences of short words of all kinds.
func TestDifferBehindLongWords(t *testing.T) {
	r := rand.New(rand.NewSource(22))
	for i := range 1500 {
		a, b := randomRope(r, i%20, 300), randomRope(r, (i+r.Intn(3))%20, 300)
		if i%3 == 0 && len(a) > 0 { // two words with a long part in common
			w := plain(a)
			at := r.Intn(len(w))
			b = must(rope.Of(w[:at] + randomWord(r, 4, r.Intn(3)) + w[at:]))
		}
		if len(a)+len(b) > 50 {
			continue
		}
		base := nodes{leaf(randomWord(r, 4, 1+r.Intn(5))), power(0, 1<<40+r.Intn(1<<40))}
		offset := lengthOf(base)
		want := plainDiffer(plain(a), plain(b))
		if want >= 0 {
			want += offset
		}
		differs(t, must(rope.Concat(base, a)), must(rope.Concat(base, b)), want)
	}
}

// P2.3: the same long word in different forms.
func TestEqualLongWords(t *testing.T) {
	r := rand.New(rand.NewSource(23))
	for range 100 {
		w := randomWord(r, 1+r.Intn(4), 2+r.Intn(20))
		at, n := 1+r.Intn(len(w)-1), 1<<30+r.Intn(1<<50)
		u, v := w[:at], w[at:]
		left := nodes{leaf(u + v), power(0, n), leaf(u), join(1, 2)}
		right := nodes{leaf(v + u), power(0, n), leaf(u), join(2, 1)}
		differs(t, left, right, -1)
		i := r.Intn(n)
		parts := nodes{leaf(u + v), power(0, i+1), power(0, n-i), join(1, 2)} // one copy more
		differs(t, parts, must(rope.Power(nodes{leaf(w)}, n+1)), -1)
		differs(t, parts, left, lengthOf(left))
	}
	for _, a := range longRopes() {
		n := lengthOf(a)
		if len(a) > 25 {
			continue
		}
		at := r.Intn(n)
		for range 20 {
			left, right := must(rope.Slice(a, 0, at)), must(rope.Slice(a, at, n))
			if len(left)+len(right) < api.MaxRopeDiffer {
				differs(t, a, must(rope.Concat(left, right)), -1)
			}
			at = r.Intn(n)
		}
		twice := must(rope.Inverse(must(rope.Inverse(a))))
		differs(t, a, twice, -1)
	}
	// Each word of Fibonacci is the next but one without its beginning; two neighbours, multiplied in both orders, differ just in the last two letters.
	f := fibonacci(58)
	g := append(fibonacci(57), join(55, 56))
	differs(t, f, g, lengthOf(f)-2)
	differs(t, fibonacci(60), f, lengthOf(f))
}

// P2.3: words with a difference at a known index, anywhere.
func TestKnownDifference(t *testing.T) {
	r := rand.New(rand.NewSource(24))
	for _, a := range []nodes{
		{leaf("a"), power(0, 1<<59)}, {leaf("ab"), power(0, 1<<55), leaf("ba"), power(2, 1<<54), join(1, 3), power(4, 5)},
		append(fibonacci(10), power(9, 1<<50)), {leaf("aab"), power(0, 77), leaf("B"), join(1, 2), power(3, 91), join(4, 1), power(5, 1001), join(6, 3), power(7, 1<<30)},
	} {
		n := lengthOf(a)
		for _, at := range []int{0, 1, n / 2, n - 2, n - 1, r.Intn(n), r.Intn(n), r.Intn(n), r.Intn(n), r.Intn(n), r.Intn(n), r.Intn(n)} {
			b := nodes{leaf(string(letter(t, a, at) ^ 32))}
			b = must(rope.Concat(must(rope.Slice(a, 0, at)), b))
			b = must(rope.Concat(b, must(rope.Slice(a, at+1, n))))
			if len(b) > api.MaxRopeDiffer {
				t.Fatalf("%d nodes", len(b))
			}
			differs(t, a, b, at)
			differs(t, b, must(rope.Slice(b, 0, at)), at)
		}
	}
}

// thueMorse returns a rope of the word of Thue and Morse with 2^n letters, in two given ones.
func thueMorse(n int, x, y string) nodes {
	r := nodes{leaf(x), leaf(y)}
	for len(r) < 2*n+1 {
		k := len(r)
		r = append(r, join(k-2, k-1), join(k-1, k-2))
	}
	return r[:len(r)-1]
}

// P2.3: words that have no powers, for which digests modulo a power of 2 would be equal.
func TestThueMorse(t *testing.T) {
	for n := 18; n <= 27; n++ {
		a, b := thueMorse(n, "a", "b"), thueMorse(n, "b", "a")
		differs(t, a, b, 0)
		differs(t, a, a, -1)
		differs(t, a, thueMorse(n-1, "a", "b"), 1<<(n-1))
		front := nodes{leaf("cD"), power(0, 1<<40)}
		differs(t, must(rope.Concat(front, a)), must(rope.Concat(front, b)), 1<<41)
	}
	// The word in ab and ba is the next one in a and b.
	a := thueMorse(26, "ab", "ba")
	differs(t, a, thueMorse(27, "a", "b"), -1)
}

// P2.3: ropes with as much in them as there can be, and words of all 16 letters.
func TestDifferOfTheLargest(t *testing.T) {
	r := rand.New(rand.NewSource(25))
	var a nodes
	for range 20 {
		a = append(a, leaf(randomWord(r, 16, api.MaxRopeLeaf)))
	}
	for i := range 20 {
		a = append(a, power(i, 1<<48+r.Intn(1<<48)))
	}
	product := 20
	for i := 21; i < 40; i++ {
		a = append(a, join(product, i))
		product = len(a) - 1
	}
	n := lengthOf(a)
	if len(a) != 59 || n < 1<<58 {
		t.Fatal(len(a), n)
	}
	differs(t, a, a, -1)
	for _, i := range []int{0, 7, 19} {
		b := slices.Clone(a)
		b[i].Word = a[i].Word[:99] + string(a[i].Word[99]^32)
		ahead := 0
		for j := range i {
			ahead += 100 * a[20+j].Times
		}
		differs(t, a, b, ahead+99)
	}
}

// P2.3: random pairs of long words: what is ahead of the difference is equal wherever it is looked at, and the letters there are not.
func TestDifferOfRandomRopes(t *testing.T) {
	r := rand.New(rand.NewSource(26))
	var pool []nodes
	for len(pool) < 60 {
		a := nodes{leaf("a"), leaf("b"), leaf("ab"), leaf("ba")}
		for len(a) < 45 {
			i, j := len(a)-1-r.Intn(4), len(a)-1-r.Intn(4)
			node := join(i, j)
			if r.Intn(4) == 0 {
				node = power(i, 1+r.Intn(9))
			}
			if next := append(a[:len(a):len(a)], node); rope.Check(next) == api.OK {
				a = next
			} else {
				a = append(a, power(len(a)-1, 1))
			}
		}
		pool = append(pool, a)
	}
	for i, a := range pool {
		for _, b := range pool[i:] {
			d, err := rope.Differ(a, b)
			m, n := lengthOf(a), lengthOf(b)
			if err != api.OK || d > min(m, n) || d < 0 && m != n {
				t.Fatalf("Differ(%v, %v) = %d, %d", a, b, d, err)
			}
			shared := d
			if d < 0 {
				shared = m
			} else if d < min(m, n) && letter(t, a, d) == letter(t, b, d) {
				t.Errorf("Differ(%v, %v) = %d: the letters are equal", a, b, d)
			}
			for k := range min(shared, 40) {
				at := k
				if shared > 40 {
					at = r.Intn(shared)
				}
				if letter(t, a, at) != letter(t, b, at) {
					t.Errorf("Differ(%v, %v) = %d, but they differ at %d", a, b, d, at)
				}
			}
		}
	}
}

// P2.3: just where one has more than 60 nodes and one has more than 100000 letters.
func TestDifferLimit(t *testing.T) {
	short, long, edge := nodes{leaf("ab")}, nodes{leaf("ab"), power(0, 50001)}, nodes{leaf("ab"), power(0, 50000)}
	for _, x := range []struct {
		a, b nodes
		i    int
		err  api.Errno
	}{
		{chain(60), long, 2, api.OK}, {chain(61), long, 0, api.ErrLimit}, {chain(61), edge, 2, api.OK}, {chain(4000), edge, 2, api.OK}, {chain(4000), chain(4000), -1, api.OK}, {chain(4000), long, 0, api.ErrLimit},
		{append(chain(60), power(0, 50001)), short, 0, api.ErrLimit}, {append(chain(59), power(0, 50001)), short, 2, api.OK}, {append(chain(60), power(0, 50000)), short, 2, api.OK}, {append(chain(59), power(0, 50001)), long, -1, api.OK},
		{nil, long, 0, api.OK}, {nil, edge, 0, api.OK}, {nil, append(chain(60), power(0, 50001)), 0, api.ErrLimit}, {long, edge, 100000, api.OK},
	} {
		for _, pair := range [][2]nodes{{x.a, x.b}, {x.b, x.a}} {
			if i, err := rope.Differ(pair[0], pair[1]); i != x.i || err != x.err {
				t.Errorf("Differ of %d and %d nodes: %d, %d, not %d, %d", len(pair[0]), len(pair[1]), i, err, x.i, x.err)
			}
		}
	}
}
