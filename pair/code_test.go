package pair_test

import (
	"slices"
	"testing"

	"cayley/api"
	"cayley/pair"
)

// P8.1: the chapter's example, and others.
func TestCode(t *testing.T) {
	for _, x := range []struct {
		n          int
		u, v, want []int
	}{
		{2, []int{0, 1, 0}, []int{1}, []int{1, 5, 2}},
		{2, []int{1}, []int{0, 1, 0}, []int{3, 7, 6}},
		{2, nil, nil, nil},
		{2, []int{}, []int{1}, []int{7}},
		{2, []int{1}, nil, []int{5}},
		{1, []int{0, 0}, []int{0}, []int{0, 1}},
		{16, []int{15, 0}, []int{15, 15, 15}, []int{270, 15, 287}},
	} {
		c, err := pair.Code(x.n, x.u, x.v)
		if err != api.OK || !slices.Equal(c, x.want) {
			t.Errorf("Code of %v and %v: %v, %d", x.u, x.v, c, err)
		}
		u, v, err := pair.Decode(x.n, x.want)
		if err != api.OK || !slices.Equal(u, x.u) || !slices.Equal(v, x.v) {
			t.Errorf("Decode of %v: %v, %v, %d", x.want, u, v, err)
		}
	}
}

// P8.1: all short words, and all short sequences of symbols: those that are codes have a pair, the others an error.
func TestDecodeAll(t *testing.T) {
	for n, longest := range map[int]int{1: 7, 2: 4, 3: 2} {
		codes := map[string]bool{}
		for u := range words(n, longest) {
			for v := range words(n, longest) {
				c, err := pair.Code(n, u, v)
				if err != api.OK {
					t.Fatalf("Code of %v and %v: %d", u, v, err)
				}
				codes[brief(c)] = true
				back, other, err := pair.Decode(n, c)
				if err != api.OK || !slices.Equal(back, u) || !slices.Equal(other, v) {
					t.Fatalf("Decode of %v: %v, %v, %d", c, back, other, err)
				}
			}
		}
		for c := range words(symbols(n), longest) {
			u, v, err := pair.Decode(n, c)
			want := api.ErrTwoTape
			if codes[brief(c)] {
				want = api.OK
			}
			if err != want || err != api.OK && (u != nil || v != nil) {
				t.Fatalf("Decode of %v: %v, %v, %d", c, u, v, err)
			}
		}
	}
}

// P8.1: what is no code.
func TestDecodeErrors(t *testing.T) {
	for _, n := range outside(1, 16) {
		if u, v, err := pair.Decode(n, []int{0}); err != api.ErrArg || u != nil || v != nil {
			t.Errorf("Decode with %d letters: %v, %v, %d", n, u, v, err)
		}
	}
	for _, bad := range [][]int{{2, 0}, {8}, {-1}, {6, 2}, {2, 6}, {6, 0}, {0, 8, 0}, {0, 1 << 62}, {-1 << 63}, {0, 5, 2, 1}, make([]int, api.MaxWord+1)} {
		if u, v, err := pair.Decode(2, bad); err != api.ErrTwoTape || u != nil || v != nil {
			t.Errorf("Decode of %s: %d", brief(bad), err)
		}
	}
	if u, v, err := pair.Decode(2, make([]int, api.MaxWord)); err != api.OK || len(u) != api.MaxWord || len(v) != api.MaxWord {
		t.Errorf("Decode of the longest code: %d", err)
	}
}

// P8.1: errors of Code, Holds and Image, in their order.
func TestWordErrors(t *testing.T) {
	long := make([]int, api.MaxWord+1)
	for _, n := range outside(1, 16) {
		if c, err := pair.Code(n, nil, nil); err != api.ErrArg || c != nil {
			t.Errorf("Code with %d letters: %v, %d", n, c, err)
		}
		if is, err := pair.Holds(n, all(8), nil, nil); err != api.ErrArg || is {
			t.Errorf("Holds with %d letters: %v, %d", n, is, err)
		}
		if v, is, err := pair.Image(n, all(8), nil); err != api.ErrArg || is || v != nil {
			t.Errorf("Image with %d letters: %v, %d", n, is, err)
		}
	}
	for _, bad := range [][]int{{2}, {-1}, {0, 1, 2}, {1 << 62}, long} {
		for _, uv := range [][2][]int{{bad, nil}, {{0}, bad}, {bad, bad}} {
			if c, err := pair.Code(2, uv[0], uv[1]); err != api.ErrArg || c != nil {
				t.Errorf("Code of %s: %d", brief(uv), err)
			}
			if is, err := pair.Holds(2, all(8), uv[0], uv[1]); err != api.ErrArg || is {
				t.Errorf("Holds of %s: %v, %d", brief(uv), is, err)
			}
			if is, err := pair.Holds(2, all(3), uv[0], uv[1]); err != api.ErrTwoTape || is {
				t.Errorf("Holds of no pair automaton and %s: %v, %d", brief(uv), is, err)
			}
		}
		if v, is, err := pair.Image(2, all(8), bad); err != api.ErrArg || is || v != nil {
			t.Errorf("Image of %s: %v, %d", brief(bad), is, err)
		}
		if v, is, err := pair.Image(2, all(9), bad); err != api.ErrTwoTape || is || v != nil {
			t.Errorf("Image in no pair automaton of %s: %v, %d", brief(bad), is, err)
		}
	}
	for name, bad := range invalid() {
		if is, err := pair.Holds(2, bad, nil, nil); err != api.ErrTwoTape || is {
			t.Errorf("Holds in %s: %v, %d", name, is, err)
		}
		if v, is, err := pair.Image(2, bad, nil); err != api.ErrTwoTape || is || v != nil {
			t.Errorf("Image in %s: %v, %d", name, is, err)
		}
		if is, w, err := pair.Function(2, bad); err != api.ErrTwoTape || is || w != (api.PairWitness{}) {
			t.Errorf("Function of %s: %v, %d", name, is, err)
		}
	}
}

// P8.1: the longest words.
func TestLongest(t *testing.T) {
	long := make([]int, api.MaxWord)
	long[api.MaxWord-1] = 1
	c, err := pair.Code(2, long, long[1:])
	if err != api.OK || len(c) != api.MaxWord || c[api.MaxWord-2] != 1 || c[api.MaxWord-1] != 5 {
		t.Errorf("Code: %d", err)
	}
	if is, err := pair.Holds(2, all(8), long, long); err != api.OK || !is {
		t.Errorf("Holds: %v, %d", is, err)
	}
	v, is, err := pair.Image(2, auto(8, "1", []int{-1, 0, -1, 0, -1, -1, -1, -1}), long) // letters exchanged
	if err != api.OK || !is || len(v) != api.MaxWord || v[0] != 1 || v[api.MaxWord-1] != 0 {
		t.Errorf("Image: %v, %d", is, err)
	}
	v, is, err = pair.Image(2, all(8), long)
	if err != api.OK || !is || len(v) != 0 {
		t.Errorf("Image of all pairs: %v, %d", is, err)
	}
}

// P8.1: pairs that belong to relations; what is accepted and is no code does not matter.
func TestHolds(t *testing.T) {
	empty := relation(t, 2, join(nil, nil))
	if is, err := pair.Holds(2, empty, nil, []int{}); err != api.OK || !is {
		t.Errorf("two empty words: %v, %d", is, err)
	}
	if is, err := pair.Holds(2, empty, nil, []int{0}); err != api.OK || is {
		t.Errorf("an empty word and another one: %v, %d", is, err)
	}
	if is, err := pair.Holds(2, none(8), nil, nil); err != api.OK || is {
		t.Errorf("no states: %v, %d", is, err)
	}
	for n, a := range samples(81, 500) {
		for u := range words(n, 3) {
			for v := range words(n, 3) {
				if is, err := pair.Holds(n, a, u, v); err != api.OK || is != related(n, a, u, v) {
					t.Fatalf("Holds of %s, %v and %v: %v, %d", brief(a), u, v, is, err)
				}
			}
		}
	}
}
