package abel_test

import (
	"math"
	"math/rand"
	"slices"
	"strings"
	"testing"

	"cayley/abel"
	"cayley/api"
)

// mustFind tests what Infinite returns for a word that has a homomorphism.
func mustFind(t *testing.T, p api.Presentation, w string) []int {
	t.Helper()
	x, err := abel.Infinite(p, w)
	if err != api.OK || len(x) != p.Gens {
		t.Fatalf("Infinite of %.40q for %.200v: %v, %d", w, p, x, err)
	}
	for _, v := range x {
		if max(v, -v) > 1<<30 {
			t.Errorf("Infinite of %.40q for %.200v: %v", w, p, x)
		}
	}
	for _, u := range p.Rels {
		if dot(sums(p.Gens, u), x) != 0 {
			t.Errorf("Infinite of %.40q for %.200v: %v maps %s to another number than 0", w, p, x, u)
		}
	}
	if dot(sums(p.Gens, w), x) == 0 {
		t.Errorf("Infinite of %.40q for %.200v: %v maps it to 0", w, p, x)
	}
	if err := abel.CheckInfinite(p, w, x); err != api.OK {
		t.Errorf("CheckInfinite of %.40q and %v for %.200v: %d", w, x, p, err)
	}
	return x
}

func mustFindNone(t *testing.T, p api.Presentation, w string) {
	t.Helper()
	if x, err := abel.Infinite(p, w); err != api.ErrNone || len(x) > 0 {
		t.Errorf("Infinite of %.40q for %.200v: %v, %d", w, p, x, err)
	}
}

// P5.1, P5.5
func TestInfinite(t *testing.T) {
	klein := of(2, "abaB")
	if x := mustFind(t, of(1), "a"); !slices.Equal(x, []int{1}) {
		t.Errorf("Infinite of a: %v", x)
	}
	mustFindNone(t, of(1), "aA")
	mustFind(t, klein, "bab")
	mustFind(t, klein, "B")
	mustFindNone(t, klein, "a")
	mustFindNone(t, klein, "aBab")
	mustFindNone(t, klein, "")
	mustFindNone(t, of(2, "aa", "bbb"), "ab")
	mustFindNone(t, of(2), "abAB")
	mustFind(t, of(8), strings.Repeat("h", api.MaxWord))
	mustFindNone(t, of(8), strings.Repeat("gHGh", api.MaxWord/4))
	mustFind(t, of(2, "abABB"), "a")
	mustFindNone(t, of(2, "abABB"), "b")
	for _, w := range []string{"c", "a b", a(api.MaxWord + 1)} {
		if x, err := abel.Infinite(klein, w); err != api.ErrArg || len(x) > 0 {
			t.Errorf("Infinite of %.40q: %v, %d", w, x, err)
		}
	}
}

// P5.5: the largest images.
func TestInfiniteWithLargeImages(t *testing.T) {
	for k := 2; k <= 8; k++ {
		n := mostNorm[k] - 1
		p := of(k, chain(k, n)...)
		x := mustFind(t, p, strings.Repeat(string(allLetters[2*k-1]), api.MaxWord))
		for i, v := range x {
			if want := power(n, i); max(v, -v) != want {
				t.Errorf("Infinite for %v: the image number %d is %d, not %d or its negative", p, i, v, want)
			}
		}
		mustFindNone(t, p, strings.Repeat("a", n)+"B")
		p.Rels = append(p.Rels, a(n))
		mustFindNone(t, p, "a")
	}
}

// P5.1
func TestCheckInfinite(t *testing.T) {
	const most = 1 << 30
	klein, long := of(2, "abaB"), strings.Repeat("b", api.MaxWord)
	for _, x := range []struct {
		p      api.Presentation
		w      string
		images []int
		want   api.Errno
	}{
		{klein, "b", []int{0, 1}, api.OK}, {klein, "b", []int{0, most}, api.OK}, {klein, "b", []int{0, -most}, api.OK}, {klein, long, []int{0, -most}, api.OK}, {klein, "abbA", []int{0, -3}, api.OK},
		{klein, "b", []int{1, 1}, api.ErrProof}, {klein, "b", []int{0, 0}, api.ErrProof}, {klein, "a", []int{0, 1}, api.ErrProof}, {klein, "", []int{0, 1}, api.ErrProof}, {klein, "abAB", []int{0, 1}, api.ErrProof}, {klein, "b", []int{0, most + 1}, api.ErrProof}, {klein, "b", []int{0, -most - 1}, api.ErrProof}, {klein, "b", []int{0, math.MaxInt}, api.ErrProof}, {klein, "b", []int{0, math.MinInt}, api.ErrProof}, {klein, "b", []int{math.MinInt, 1}, api.ErrProof},
		{klein, "b", nil, api.ErrProof}, {klein, "b", []int{0}, api.ErrProof}, {klein, "b", []int{0, 1, 0}, api.ErrProof}, {of(1), "a", nil, api.ErrProof},
		{klein, "c", []int{0, 1}, api.ErrArg}, {klein, "c", nil, api.ErrArg}, {klein, long + "b", []int{1, 1}, api.ErrArg},
		{of(2, "ab", "aab"), "b", []int{1, -1}, api.ErrProof}, {of(2, "ab", "aabb"), "b", []int{most, -most}, api.OK}, {of(2, "aB"), "aB", []int{1, 1}, api.ErrProof}, {of(3, a(200)), "c", []int{most, 0, 1}, api.ErrProof},
	} {
		if err := abel.CheckInfinite(x.p, x.w, x.images); err != x.want {
			t.Errorf("CheckInfinite of %.40q and %v for %.80v: %d, not %d", x.w, x.images, x.p, err, x.want)
		}
	}
}

// mustMap returns the image of a word.
func mustMap(t *testing.T, p api.Presentation, c api.Abel, w string) []int {
	t.Helper()
	x, err := abel.Image(p, c, w)
	if err != api.OK || !slices.Equal(x, image(c, sums(p.Gens, w))) {
		t.Fatalf("Image of %.80q for %.200v: %v, %d", w, p, x, err)
	}
	return x
}

// added returns the sum of images, of the second one as often as a factor says.
func added(c api.Abel, x []int, factor int, y []int) []int {
	out := slices.Clone(x)
	for i := range out {
		out[i] += factor * y[i]
		if i < len(c.Torsion) {
			out[i] = (out[i]%c.Torsion[i] + c.Torsion[i]) % c.Torsion[i]
		}
	}
	return out
}

// P5.3
func TestImagesAreHomomorphic(t *testing.T) {
	r := rand.New(rand.NewSource(6))
	for i := range 800 {
		k := 1 + i%8
		p := randomPresentation(r, k, 1+r.Intn(mostNorm[k]), 1+r.Intn(k))
		c := mustCertify(t, p)
		u, v := randomWord(r, k, r.Intn(12)), randomWord(r, k, r.Intn(12))
		x, y := mustMap(t, p, c, u), mustMap(t, p, c, v)
		zero := make([]int, len(x))
		expect := map[string][]int{
			u + v: added(c, x, 1, y), inverse(u): added(c, zero, -1, x), u + v + inverse(u) + inverse(v): zero, v + u + inverse(v): x, "": zero,
		}
		at := r.Intn(len(u) + 1)
		expect[u[:at]+v+inverse(v)+u[at:]] = x
		for _, w := range p.Rels {
			expect[u[:at]+w+u[at:]] = x
			expect[u[:at]+inverse(w)+u[at:]] = x
			expect[w] = zero
		}
		for w, want := range expect {
			if got := mustMap(t, p, c, w); !slices.Equal(got, want) {
				t.Errorf("Image of %.80q by %v for %.200v: %v, not %v", w, c, p, got, want)
			}
		}
	}
}

// P5.4
func TestOrdersArePeriods(t *testing.T) {
	r := rand.New(rand.NewSource(7))
	for i := range 800 {
		k := 1 + i%8
		p := randomPresentation(r, k, 1+r.Intn(mostSure[k]), 1+r.Intn(k+2))
		c := mustCertify(t, p)
		w := randomWord(r, k, r.Intn(8))
		order, err := abel.Order(p, c, w)
		if err != api.OK {
			t.Fatalf("Order of %q for %v: %d", w, p, err)
		}
		for _, n := range []int{0, 1, 2, 3, 4, 6, 12, order - 1, order, order + 1, 2 * order, order / 2} {
			if n < 0 || n*len(w) > api.MaxWord {
				continue
			}
			isZero := !slices.ContainsFunc(mustMap(t, p, c, strings.Repeat(w, n)), func(x int) bool { return x != 0 })
			if isZero != (n == 0 || order != 0 && n%order == 0) {
				t.Errorf("%v: the power %d of %q, which has the order %d: its image is zero: %v", p, n, w, order, isZero)
			}
		}
	}
}

// P5.5
func TestInfiniteOrders(t *testing.T) {
	r := rand.New(rand.NewSource(8))
	infinite := 0
	for i := range 3000 {
		k := 1 + i%8
		p := randomPresentation(r, k, 1+r.Intn(mostNorm[k]), 1+r.Intn(k))
		c := mustCertify(t, p)
		w := randomWord(r, k, r.Intn(8))
		if i%4 == 0 {
			for _, u := range p.Rels { // a product of relators, and one letter perhaps
				w += u
			}
		}
		order, err := abel.Order(p, c, w)
		if err != api.OK {
			t.Fatalf("Order of %q for %v: %d", w, p, err)
		}
		if order == 0 {
			infinite++
			mustFind(t, p, w)
		} else {
			mustFindNone(t, p, w)
		}
	}
	if infinite < 300 || infinite > 2700 {
		t.Errorf("%d of 3000 words have infinite order", infinite)
	}
}

// P5.1: lists of results share no memory with each other, nor with what is kept for later calls.
func TestMemory(t *testing.T) {
	p := of(3, "abaB", "ccc")
	c := mustCertify(t, p)
	kept := copyOf(c)
	x, _ := abel.Image(p, c, "ab")
	y, _ := abel.Infinite(p, "b")
	z, _ := abel.Sums(3, "abA")
	lists := slices.Concat(rows{c.Torsion, x, y, z}, c.Images, c.Lifts)
	before := copyOf(api.Abel{Images: lists}).Images
	for i, v := range lists {
		for j := range v {
			v[j] = 99
		}
		_ = append(v, 99)
		if !slices.EqualFunc(lists[i+1:], before[i+1:], slices.Equal) {
			t.Fatalf("the list number %d of %v has changed others: %v", i, before, lists)
		}
	}
	if e := mustCertify(t, p); !slices.EqualFunc(e.Images, kept.Images, slices.Equal) || !slices.EqualFunc(e.Lifts, kept.Lifts, slices.Equal) {
		t.Errorf("%v, and then %v", kept, e)
	}
}
