package abel_test

import (
	"math"
	"math/rand"
	"slices"
	"strings"
	"testing"

	"cayley/abel"
	"cayley/api"
)

// copyOf returns a certificate with memory of its own.
func copyOf(c api.Abel) api.Abel {
	c.Torsion = slices.Clone(c.Torsion)
	c.Images, c.Lifts = slices.Clone(c.Images), slices.Clone(c.Lifts)
	for _, rows := range [][][]int{c.Images, c.Lifts} {
		for i, v := range rows {
			rows[i] = slices.Clone(v)
		}
	}
	return c
}

func mustCheck(t *testing.T, p api.Presentation, c api.Abel, want api.Errno) {
	t.Helper()
	if err := abel.Check(p, c); err != want {
		t.Errorf("Check of %v for %.100v: %d, not %d", c, p, err, want)
	}
}

type rows = [][]int

// P5.1
func TestCheck(t *testing.T) {
	const most = api.MaxAbelEntry
	six, klein := of(2, "aa", "bbb"), of(2, "abaB")
	for _, x := range []struct {
		p    api.Presentation
		c    api.Abel
		want api.Errno
	}{
		{six, api.Abel{Torsion: []int{6}, Images: rows{{3}, {2}}, Lifts: rows{{1, -1}}}, api.OK}, {six, api.Abel{Torsion: []int{6}, Images: rows{{3}, {2}}, Lifts: rows{{3, 2}}}, api.OK}, {six, api.Abel{Torsion: []int{6}, Images: rows{{3}, {4}}, Lifts: rows{{1, 1}}}, api.OK}, {six, api.Abel{Torsion: []int{6}, Images: rows{{3}, {4}}, Lifts: rows{{most - 1, most/3*3 + 1}}}, api.OK},
		{six, api.Abel{Torsion: []int{6}, Images: rows{{3}, {4}}, Lifts: rows{{most + 1, 1}}}, api.ErrProof}, {six, api.Abel{Torsion: []int{6}, Images: rows{{3}, {4}}, Lifts: rows{{-most - 1, 1}}}, api.ErrProof}, {six, api.Abel{Torsion: []int{6}, Images: rows{{3}, {4}}, Lifts: rows{{math.MinInt + 1, 1}}}, api.ErrProof},
		{six, api.Abel{Torsion: []int{2, 3}, Images: rows{{1, 0}, {0, 1}}, Lifts: rows{{1, 0}, {0, 1}}}, api.ErrProof}, {six, api.Abel{Torsion: []int{1, 6}, Images: rows{{0, 3}, {0, 2}}, Lifts: rows{{0, 0}, {1, -1}}}, api.ErrProof}, {six, api.Abel{Torsion: []int{3}, Images: rows{{0}, {1}}, Lifts: rows{{0, 1}}}, api.ErrProof}, {six, api.Abel{}, api.ErrProof}, {six, api.Abel{Images: rows{{}, {}}}, api.ErrProof}, {six, api.Abel{Torsion: []int{-6}, Images: rows{{3}, {2}}, Lifts: rows{{1, -1}}}, api.ErrProof}, {six, api.Abel{Torsion: []int{0}, Images: rows{{3}, {2}}, Lifts: rows{{1, -1}}}, api.ErrProof}, {six, api.Abel{Torsion: []int{6}, Rank: -1}, api.ErrProof}, {six, api.Abel{Torsion: []int{6}, Rank: math.MinInt, Images: rows{{3}, {2}}, Lifts: rows{{1, -1}}}, api.ErrProof},
		{six, api.Abel{Torsion: []int{6}, Images: rows{{9}, {2}}, Lifts: rows{{1, -1}}}, api.ErrProof}, {six, api.Abel{Torsion: []int{6}, Images: rows{{-3}, {2}}, Lifts: rows{{1, -1}}}, api.ErrProof}, {six, api.Abel{Torsion: []int{6}, Images: rows{{3}, {6}}, Lifts: rows{{1, -1}}}, api.ErrProof}, {six, api.Abel{Torsion: []int{6}, Images: rows{{3}, {1}}, Lifts: rows{{0, 1}}}, api.ErrProof}, {six, api.Abel{Torsion: []int{6}, Images: rows{{3}, {2}}, Lifts: rows{{1, 1}}}, api.ErrProof}, {six, api.Abel{Torsion: []int{6}, Images: rows{{0}, {2}}, Lifts: rows{{1, -1}}}, api.ErrProof},
		{six, api.Abel{Torsion: []int{6}, Images: rows{{3}}, Lifts: rows{{1, -1}}}, api.ErrProof}, {six, api.Abel{Torsion: []int{6}, Images: rows{{3}, {2}, {0}}, Lifts: rows{{1, -1}}}, api.ErrProof}, {six, api.Abel{Torsion: []int{6}, Images: rows{{3}, {2, 0}}, Lifts: rows{{1, -1}}}, api.ErrProof}, {six, api.Abel{Torsion: []int{6}, Images: rows{{3}, nil}, Lifts: rows{{1, -1}}}, api.ErrProof}, {six, api.Abel{Torsion: []int{6}, Images: rows{{3}, {2}}}, api.ErrProof}, {six, api.Abel{Torsion: []int{6}, Images: rows{{3}, {2}}, Lifts: rows{{1, -1}, {0, 0}}}, api.ErrProof}, {six, api.Abel{Torsion: []int{6}, Images: rows{{3}, {2}}, Lifts: rows{{1}}}, api.ErrProof}, {six, api.Abel{Torsion: []int{6}, Images: rows{{3}, {2}}, Lifts: rows{{1, -1, 0}}}, api.ErrProof},
		{klein, api.Abel{Torsion: []int{2}, Rank: 1, Images: rows{{1, 0}, {0, 1}}, Lifts: rows{{1, 0}, {0, 1}}}, api.OK}, {klein, api.Abel{Torsion: []int{2}, Rank: 1, Images: rows{{1, 0}, {1, -1}}, Lifts: rows{{-1, 0}, {3, -1}}}, api.OK}, {klein, api.Abel{Torsion: []int{2}, Rank: 1, Images: rows{{1, 0}, {1, -1}}, Lifts: rows{{-1, 0}, {2, -1}}}, api.ErrProof}, {klein, api.Abel{Torsion: []int{2}, Rank: 1, Images: rows{{1, 0}, {0, 2}}, Lifts: rows{{1, 0}, {0, 1}}}, api.ErrProof}, {klein, api.Abel{Torsion: []int{2}, Rank: 1, Images: rows{{1, 1}, {0, 1}}, Lifts: rows{{1, -1}, {0, 1}}}, api.ErrProof}, {klein, api.Abel{Torsion: []int{2}, Rank: 2, Images: rows{{1, 0, 0}, {0, 1, 0}}, Lifts: rows{{1, 0}, {0, 1}, {0, 0}}}, api.ErrProof}, {klein, api.Abel{Rank: 1, Images: rows{{0}, {1}}, Lifts: rows{{0, 1}}}, api.ErrProof}, {klein, api.Abel{Torsion: []int{2}, Images: rows{{1}, {0}}, Lifts: rows{{1, 0}}}, api.ErrProof}, {klein, api.Abel{Rank: 2, Images: rows{{1, 0}, {0, 1}}, Lifts: rows{{1, 0}, {0, 1}}}, api.ErrProof},
		{of(1, "a", "aa"), api.Abel{Images: rows{{}}}, api.OK}, {of(1, "a", "aa"), api.Abel{Torsion: []int{}, Images: rows{nil}, Lifts: rows{}}, api.OK}, {of(1, "a", "aa"), api.Abel{}, api.ErrProof}, {of(1, "a", "aa"), api.Abel{Images: rows{{}}, Lifts: rows{{}}}, api.ErrProof}, {of(1, "a"), api.Abel{Rank: 1, Images: rows{{0}}, Lifts: rows{{1}}}, api.ErrProof},
		{of(2, "aaaa", "aabb"), api.Abel{Torsion: []int{4, 2}, Images: rows{{1, 0}, {1, 1}}, Lifts: rows{{1, 0}, {-1, 1}}}, api.ErrProof}, {of(2, "aaaa", "aabb"), api.Abel{Torsion: []int{2, 4}, Images: rows{{0, 1}, {1, 1}}, Lifts: rows{{-1, 1}, {1, 0}}}, api.OK}, {of(2, "aaaa", "aabb"), api.Abel{Torsion: []int{8}, Images: rows{{2}, {2}}, Lifts: rows{{0, 0}}}, api.ErrProof},
		{of(2), api.Abel{Rank: 2, Images: rows{{1, most}, {0, 1}}, Lifts: rows{{1, -most}, {0, 1}}}, api.OK}, {of(2), api.Abel{Rank: 2, Images: rows{{1, -most}, {0, -1}}, Lifts: rows{{1, -most}, {0, -1}}}, api.OK}, {of(2), api.Abel{Rank: 2, Images: rows{{1, most + 1}, {0, 1}}, Lifts: rows{{1, -most}, {0, 1}}}, api.ErrProof}, {of(2), api.Abel{Rank: 2, Images: rows{{1, -most - 1}, {0, 1}}, Lifts: rows{{1, most}, {0, 1}}}, api.ErrProof}, {of(2), api.Abel{Rank: 2, Images: rows{{1, math.MinInt}, {0, 1}}, Lifts: rows{{1, 0}, {0, 1}}}, api.ErrProof}, {of(2), api.Abel{Rank: 2, Images: rows{{1, 0}, {0, 1}}, Lifts: rows{{1, math.MinInt}, {0, 1}}}, api.ErrProof}, {of(2), api.Abel{Rank: 2, Images: rows{{1, 0}, {0, 1}}, Lifts: rows{{0, 1}, {1, 0}}}, api.ErrProof}, {of(2), api.Abel{Rank: 2, Images: rows{{1, 0}, {0, 1}}, Lifts: rows{{-1, 0}, {0, 1}}}, api.ErrProof},
	} {
		mustCheck(t, x.p, x.c, x.want)
	}
}

// P5.1: sums that would overflow 32 bits, and those that would be 1 modulo 2^64.
func TestCheckIsExact(t *testing.T) {
	const most = api.MaxAbelEntry
	p := of(4, append(chain(4, 180), strings.Repeat("d", 180)+"A")...)
	c := mustCertify(t, p)
	n := power(180, 4) - 1
	big := slices.Clone(c.Lifts[0])
	for g, x := range c.Images { // add multiples of n to the lift, as far as there is room for these
		if x[0] != 0 {
			big[g] += n / gcd(n, x[0]) * ((most - big[g]) / (n / gcd(n, x[0])))
		}
	}
	c.Lifts[0] = big
	mustCheck(t, p, c, api.OK)
	free := of(8)
	d := mustCertify(t, free)
	for i := range 8 {
		for j := range 8 {
			d.Images[i][j], d.Lifts[i][j] = most, most
		}
	}
	mustCheck(t, free, d, api.ErrProof)
}

// P5.1: a valid certificate is not valid once an entry has been changed.
func TestCheckOfChangedCertificates(t *testing.T) {
	r := rand.New(rand.NewSource(5))
	for i := range 2000 {
		k := 1 + i%8
		p := randomPresentation(r, k, 1+r.Intn(mostNorm[k]), 1+r.Intn(k))
		c := mustCertify(t, p)
		for range 10 {
			d := copyOf(c)
			by := (1 + r.Intn(3)) * (1 - 2*r.Intn(2))
			switch g := r.Intn(k); {
			case len(d.Torsion) > 0 && r.Intn(3) == 0:
				d.Torsion[r.Intn(len(d.Torsion))] += by
			case len(d.Lifts) > 0 && r.Intn(2) == 0:
				d.Lifts[r.Intn(len(d.Lifts))][g] += by
			case len(d.Lifts) > 0:
				d.Images[g][r.Intn(len(d.Lifts))] += by
			default:
				d.Rank += by
			}
			want := api.OK
			if !slices.Equal(c.Torsion, d.Torsion) || c.Rank != d.Rank || fault(p, d) != "" {
				want = api.ErrProof
			}
			mustCheck(t, p, d, want)
		}
	}
}

// P5.1
func TestSums(t *testing.T) {
	long := strings.Repeat("aB", api.MaxWord/2)
	for _, x := range []struct {
		k    int
		w    string
		want []int
	}{
		{3, "abAcc", []int{0, 1, 2}}, {1, "", []int{0}}, {8, "HhHgA", []int{-1, 0, 0, 0, 0, 0, 1, -1}}, {2, "baBBB", []int{1, -2}}, {2, long, []int{api.MaxWord / 2, -api.MaxWord / 2}},
	} {
		if s, err := abel.Sums(x.k, x.w); err != api.OK || !slices.Equal(s, x.want) {
			t.Errorf("Sums(%d, %.40q) = %v, %d, not %v", x.k, x.w, s, err, x.want)
		}
	}
	for _, x := range []struct {
		k int
		w string
	}{
		{0, ""}, {9, "a"}, {-1, ""}, {math.MaxInt, ""}, {2, "c"}, {2, "C"}, {8, "i"}, {8, "a b"}, {8, "1"}, {8, "\xff"}, {2, long + "a"},
	} {
		if s, err := abel.Sums(x.k, x.w); err != api.ErrArg || len(s) > 0 {
			t.Errorf("Sums(%d, %.40q) = %v, %d", x.k, x.w, s, err)
		}
	}
}

// P5.1
func TestImageAndOrder(t *testing.T) {
	six := api.Abel{Torsion: []int{6}, Images: rows{{3}, {2}}, Lifts: rows{{1, -1}}}
	klein := api.Abel{Torsion: []int{2}, Rank: 1, Images: rows{{1, 0}, {1, -1}}, Lifts: rows{{-1, 0}, {3, -1}}}
	four := api.Abel{Torsion: []int{2, 4}, Images: rows{{0, 1}, {1, 1}}, Lifts: rows{{-1, 1}, {1, 0}}}
	for _, x := range []struct {
		p     api.Presentation
		c     api.Abel
		w     string
		image []int
		order int
	}{
		{of(2, "aa", "bbb"), six, "a", []int{3}, 2}, {of(2, "aa", "bbb"), six, "b", []int{2}, 3}, {of(2, "aa", "bbb"), six, "ab", []int{5}, 6}, {of(2, "aa", "bbb"), six, "AB", []int{1}, 6}, {of(2, "aa", "bbb"), six, "", []int{0}, 1}, {of(2, "aa", "bbb"), six, "abAB", []int{0}, 1}, {of(2, "aa", "bbb"), six, "BBaAa", []int{5}, 6}, {of(2, "aa", "bbb"), six, strings.Repeat("aB", 50000), []int{2}, 3},
		{of(2, "abaB"), klein, "a", []int{1, 0}, 2}, {of(2, "abaB"), klein, "b", []int{1, -1}, 0}, {of(2, "abaB"), klein, "ab", []int{0, -1}, 0}, {of(2, "abaB"), klein, "bab", []int{1, -2}, 0}, {of(2, "abaB"), klein, "BB", []int{0, 2}, 0}, {of(2, "abaB"), klein, "aBab", []int{0, 0}, 1},
		{of(2, "aaaa", "aabb"), four, "ab", []int{1, 2}, 2}, {of(2, "aaaa", "aabb"), four, "a", []int{0, 1}, 4}, {of(2, "aaaa", "aabb"), four, "aa", []int{0, 2}, 2}, {of(2, "aaaa", "aabb"), four, "B", []int{1, 3}, 4}, {of(2, "aaaa", "aabb"), four, "aB", []int{1, 0}, 2},
		{of(1, "a", "aa"), api.Abel{Images: rows{{}}}, "aaa", nil, 1},
	} {
		if image, err := abel.Image(x.p, x.c, x.w); err != api.OK || !slices.Equal(image, x.image) {
			t.Errorf("Image of %.40q for %v: %v, %d, not %v", x.w, x.p, image, err, x.image)
		}
		if n, err := abel.Order(x.p, x.c, x.w); err != api.OK || n != x.order {
			t.Errorf("Order of %.40q for %v: %d, %d, not %d", x.w, x.p, n, err, x.order)
		}
	}
}

// P5.1: ErrProof is ahead of ErrArg.
func TestErrorsOfImageAndOrder(t *testing.T) {
	p := of(2, "aa", "bbb")
	six := api.Abel{Torsion: []int{6}, Images: rows{{3}, {2}}, Lifts: rows{{1, -1}}}
	for _, x := range []struct {
		c    api.Abel
		w    string
		want api.Errno
	}{
		{six, "c", api.ErrArg}, {six, "a b", api.ErrArg}, {six, a(api.MaxWord + 1), api.ErrArg}, {six, a(api.MaxWord), api.OK}, {api.Abel{}, "a", api.ErrProof}, {api.Abel{}, "c", api.ErrProof}, {api.Abel{Torsion: []int{6}, Images: rows{{3}, {2}}, Lifts: rows{{1, 1}}}, "", api.ErrProof},
	} {
		image, err := abel.Image(p, x.c, x.w)
		if n, err2 := abel.Order(p, x.c, x.w); err != x.want || err2 != x.want || err != api.OK && len(image)+n > 0 {
			t.Errorf("Image and Order of %.40q by %v: %v, %d, and %d, %d, not %d", x.w, x.c, image, err, n, err2, x.want)
		}
	}
}
