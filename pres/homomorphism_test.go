package pres_test

import (
	"math"
	"math/rand"
	"strings"
	"testing"

	"cayley/api"
	"cayley/pres"
)

// product returns the product of the images of the letters of a word, ahead of its reduction.
func product(images []string, w string) string {
	var out strings.Builder
	for _, c := range []byte(w) {
		at := strings.IndexByte(allLetters, c)
		if image := images[at/2]; at%2 == 0 {
			out.WriteString(image)
		} else {
			out.WriteString(inverse(image))
		}
	}
	return out.String()
}

// image returns what Substitute returns where there is no error.
func image(t *testing.T, k int, images []string, w string) string {
	t.Helper()
	out, err := pres.Substitute(k, images, w)
	if err != api.OK {
		t.Fatalf("Substitute of %d, %q, %q: %d", k, images, w, err)
	}
	return out
}

// P3.2
func TestSubstitute(t *testing.T) {
	const n = api.MaxWord
	for _, x := range []struct {
		k      int
		images []string
		w      string
		image  string
		err    api.Errno
	}{
		{2, []string{"ab", "B"}, "abA", "aBA", 0}, {1, []string{"a"}, "", "", 0}, {1, []string{""}, "aaA", "", 0}, {1, []string{"aA", "Aaa"}, "abB", "", 0}, {8, []string{"h"}, "A", "H", 0}, {2, []string{"ab"}, "AA", "BABA", 0}, {1, []string{"a", "a", "a", "a", "a", "a", "a", "A"}, "hHh", "A", 0},
		{0, []string{"a"}, "a", "", api.ErrArg}, {9, []string{"a"}, "a", "", api.ErrArg}, {-1, []string{"a"}, "?", "", api.ErrArg}, {math.MaxInt, nil, "", "", api.ErrArg}, {math.MinInt, nil, "", "", api.ErrArg}, {1, nil, "", "", api.ErrArg}, {1, []string{}, "?", "", api.ErrArg}, {1, make([]string, 9), "", "", api.ErrArg}, {1, make([]string, 9), a(n + 1), "", api.ErrArg},
		{1, make([]string, 8), "h", "", 0}, {1, make([]string, 7), "h", "", api.ErrForm}, {1, []string{"a"}, "b", "", api.ErrForm}, {1, []string{"a"}, "?", "", api.ErrForm}, {1, []string{"ab"}, "a", "", api.ErrForm}, {1, []string{"a", "b"}, "a", "", api.ErrForm}, {2, []string{"a", "1"}, "a", "", api.ErrForm}, {1, []string{"b"}, "", "", api.ErrForm}, {8, []string{"i"}, "a", "", api.ErrForm},
		{1, []string{"a"}, a(n), a(n), 0}, {1, []string{"a"}, a(n + 1), "", api.ErrForm}, {1, []string{a(n)}, "a", a(n), 0}, {1, []string{a(n + 1)}, "", "", api.ErrForm}, {1, []string{"a", a(n + 1)}, "a", "", api.ErrForm}, {1, []string{"a", a(n + 1)}, a(n + 1), "", api.ErrForm},
		{1, []string{a(n)}, "aa", "", api.ErrLimit}, {1, []string{a(n)}, "aA", "", api.ErrLimit}, {1, []string{a(n / 2)}, "aA", "", 0}, {1, []string{a(n/2) + "A"}, "aA", "", api.ErrLimit}, {1, []string{"aaA"}, a(33333), a(33333), 0}, {1, []string{"aaA"}, a(33334), "", api.ErrLimit}, {1, []string{a(n), ""}, strings.Repeat("b", n), "", 0}, {1, []string{a(n), ""}, "a" + strings.Repeat("b", n-1), a(n), 0}, {1, []string{a(n)}, a(n), "", api.ErrLimit}, {1, []string{a(n), a(n)}, strings.Repeat("abAB", n/4), "", api.ErrLimit}, {1, []string{a(n), "b"}, "aa", "", api.ErrForm},
	} {
		if out, err := pres.Substitute(x.k, x.images, x.w); err != x.err || out != x.image {
			t.Errorf("Substitute of %d, %.40q, %.40q = %.40q, %d", x.k, x.images, x.w, out, err)
		}
	}
}

// P3.8
func TestHomomorphisms(t *testing.T) {
	r := rand.New(rand.NewSource(8))
	for range 2000 {
		k, m, n := 1+r.Intn(3), 1+r.Intn(8), 1+r.Intn(4)
		first, second, both := make([]string, m), make([]string, n), make([]string, m)
		for i := range second {
			second[i] = randomWord(r, k, r.Intn(6))
		}
		for i := range first {
			first[i] = randomWord(r, n, r.Intn(6))
			both[i] = image(t, k, second, first[i])
		}
		u, v := randomWord(r, m, r.Intn(10)), randomWord(r, m, r.Intn(10))
		imageU, imageV := image(t, n, first, u), image(t, n, first, v)
		if imageU != reduce(product(first, u)) {
			t.Errorf("the image of %q under %q is %q", u, first, imageU)
		}
		if image(t, n, first, u+v) != reduce(imageU+imageV) || image(t, n, first, inverse(u)) != inverse(imageU) {
			t.Errorf("the images of %q and %q under %q", u, v, first)
		}
		if image(t, k, second, imageU) != image(t, k, both, u) {
			t.Errorf("the image of %q under %q, and that under %q", u, first, second)
		}
	}
}
