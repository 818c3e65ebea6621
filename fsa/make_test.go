package fsa_test

import (
	"math/rand"
	"slices"
	"testing"

	"cayley/api"
	"cayley/fsa"
)

var hows = []int{api.FsaAnd, api.FsaOr, api.FsaMinus, api.FsaXor}

// says is what how says of a word that two automata accept or not.
func says(how int, p, q bool) bool {
	switch how {
	case api.FsaAnd:
		return p && q
	case api.FsaOr:
		return p || q
	case api.FsaMinus:
		return p && !q
	}
	return p != q
}

// P6.2: the chapter's examples, and others.
func TestMake(t *testing.T) {
	e, o, none, empty := even(), odd(), api.Automaton{Symbols: 2}, auto(2, "1", []int{-1, -1})
	starOfOdd := auto(2, "110", []int{1, 2}, []int{1, 1}, []int{1, 2})
	for _, x := range []struct {
		name string
		call func() (api.Automaton, api.Errno)
		want api.Automaton
	}{
		{"Complement of E", func() (api.Automaton, api.Errno) { return fsa.Complement(e) }, o},
		{"Complement of none", func() (api.Automaton, api.Errno) { return fsa.Complement(none) }, all()},
		{"Complement of all", func() (api.Automaton, api.Errno) { return fsa.Complement(all()) }, none},
		{"Complement of the empty word", func() (api.Automaton, api.Errno) { return fsa.Complement(empty) }, auto(2, "01", []int{1, 1}, []int{1, 1})},
		{"E or odd", func() (api.Automaton, api.Errno) { return fsa.Combine(e, o, api.FsaOr) }, all()},
		{"E and odd", func() (api.Automaton, api.Errno) { return fsa.Combine(e, o, api.FsaAnd) }, none},
		{"E minus odd", func() (api.Automaton, api.Errno) { return fsa.Combine(e, o, api.FsaMinus) }, e},
		{"E xor all", func() (api.Automaton, api.Errno) { return fsa.Combine(e, all(), api.FsaXor) }, o},
		{"none or E", func() (api.Automaton, api.Errno) { return fsa.Combine(none, e, api.FsaOr) }, e},
		{"none and none", func() (api.Automaton, api.Errno) { return fsa.Combine(none, none, api.FsaAnd) }, none},
		{"Concat of E and E", func() (api.Automaton, api.Errno) { return fsa.Concat(e, e) }, e},
		{"Concat of odd and odd", func() (api.Automaton, api.Errno) { return fsa.Concat(o, o) }, auto(2, "001", []int{1, 0}, []int{2, 1}, []int{1, 2})},
		{"Concat of E and none", func() (api.Automaton, api.Errno) { return fsa.Concat(e, none) }, none},
		{"Concat of none and E", func() (api.Automaton, api.Errno) { return fsa.Concat(none, e) }, none},
		{"Concat of the empty word and E", func() (api.Automaton, api.Errno) { return fsa.Concat(empty, e) }, e},
		{"Concat of E and the empty word", func() (api.Automaton, api.Errno) { return fsa.Concat(e, empty) }, e},
		{"Star of E", func() (api.Automaton, api.Errno) { return fsa.Star(e) }, e},
		{"Star of odd", func() (api.Automaton, api.Errno) { return fsa.Star(o) }, starOfOdd},
		{"Star of none", func() (api.Automaton, api.Errno) { return fsa.Star(none) }, empty},
		{"Star of the empty word", func() (api.Automaton, api.Errno) { return fsa.Star(empty) }, empty},
		{"Star, where the start is reached again", func() (api.Automaton, api.Errno) { return fsa.Star(auto(2, "01", []int{0, 1}, []int{-1, -1})) }, auto(2, "10", []int{1, 0}, []int{1, 0})},
		{"Reverse of E", func() (api.Automaton, api.Errno) { return fsa.Reverse(e) }, e},
		{"Reverse of none", func() (api.Automaton, api.Errno) { return fsa.Reverse(none) }, none},
		{"Reverse of 0 1", func() (api.Automaton, api.Errno) {
			return fsa.Reverse(auto(2, "001", []int{1, -1}, []int{-1, 2}, []int{-1, -1}))
		}, auto(2, "001", []int{-1, 1}, []int{2, -1}, []int{-1, -1})},
		{"Words 0, 0 1", func() (api.Automaton, api.Errno) { return fsa.Words(2, [][]int{{0}, {0, 1}}) }, auto(2, "011", []int{1, -1}, []int{-1, 2}, []int{-1, -1})},
		{"Words 0 1, 0, 0 1", func() (api.Automaton, api.Errno) { return fsa.Words(2, [][]int{{0, 1}, {0}, {0, 1}}) }, auto(2, "011", []int{1, -1}, []int{-1, 2}, []int{-1, -1})},
		{"Words 1 0, 0", func() (api.Automaton, api.Errno) { return fsa.Words(2, [][]int{{1, 0}, {0}}) }, auto(2, "010", []int{1, 2}, []int{-1, -1}, []int{1, -1})},
		{"Words of nothing", func() (api.Automaton, api.Errno) { return fsa.Words(2, nil) }, none},
		{"Words of the empty word", func() (api.Automaton, api.Errno) { return fsa.Words(2, [][]int{nil, {}}) }, empty},
	} {
		a, err := x.call()
		mustBe(t, x.name, a, err, x.want)
	}
}

// P6.2: errors, in their order.
func TestMakeErrors(t *testing.T) {
	e, three := even(), api.Automaton{Symbols: 3}
	for name, bad := range invalid() {
		for _, how := range []int{api.FsaAnd, api.FsaXor, 0, 9} {
			a, err := fsa.Combine(bad, e, how)
			mustFail(t, "Combine of "+name, a, err, api.ErrFsa)
			a, err = fsa.Combine(three, bad, how)
			mustFail(t, "Combine with "+name, a, err, api.ErrFsa)
		}
		a, err := fsa.Concat(bad, e)
		mustFail(t, "Concat of "+name, a, err, api.ErrFsa)
		a, err = fsa.Concat(three, bad)
		mustFail(t, "Concat with "+name, a, err, api.ErrFsa)
		a, err = fsa.Complement(bad)
		mustFail(t, "Complement of "+name, a, err, api.ErrFsa)
		a, err = fsa.Star(bad)
		mustFail(t, "Star of "+name, a, err, api.ErrFsa)
		a, err = fsa.Reverse(bad)
		mustFail(t, "Reverse of "+name, a, err, api.ErrFsa)
	}
	for _, how := range hows {
		a, err := fsa.Combine(e, three, how)
		mustFail(t, "Combine", a, err, api.ErrArg)
	}
	for _, how := range []int{0, 5, -1, 1 << 62, -1 << 63} {
		a, err := fsa.Combine(e, e, how)
		mustFail(t, "Combine", a, err, api.ErrArg)
	}
	a, err := fsa.Concat(three, e)
	mustFail(t, "Concat", a, err, api.ErrArg)
}

// P6.2: errors of Words.
func TestWordsErrors(t *testing.T) {
	long := make([]int, 100001)
	for _, x := range []struct {
		symbols int
		l       [][]int
		want    api.Errno
	}{
		{0, nil, api.ErrArg}, {-1, [][]int{{}}, api.ErrArg}, {401, nil, api.ErrArg}, {1 << 62, [][]int{{0}}, api.ErrArg}, {2, [][]int{{0}, {0, 2}}, api.ErrArg}, {2, [][]int{{-1}}, api.ErrArg},
		{1, [][]int{long}, api.ErrLimit}, {1, [][]int{long[:50000], {}, long[:50001]}, api.ErrLimit}, {2, slices.Repeat([][]int{{1}}, 100001), api.ErrLimit}, {1, [][]int{long, {1}}, api.ErrArg},
	} {
		a, err := fsa.Words(x.symbols, x.l)
		mustFail(t, "Words", a, err, x.want)
	}
}

// P6.5: what constructions accept, for all short words.
func TestMakeRandom(t *testing.T) {
	r := rand.New(rand.NewSource(64))
	for range 1500 {
		symbols := 1 + r.Intn(3)
		a, b := random(r, 6, symbols), random(r, 6, symbols)
		most := []int{0, 9, 6, 5}[symbols]
		for _, how := range hows {
			c, err := fsa.Combine(a, b, how)
			mustAccept(t, "Combine", must(t, "Combine", c, err), most, func(w []int) bool { return says(how, accepts(a, w), accepts(b, w)) })
		}
		c, err := fsa.Complement(a)
		mustAccept(t, "Complement", must(t, "Complement", c, err), most, func(w []int) bool { return !accepts(a, w) })
		c, err = fsa.Reverse(a)
		mustAccept(t, "Reverse", must(t, "Reverse", c, err), most, func(w []int) bool { return accepts(a, reversed(w)) })
		c, err = fsa.Concat(a, b)
		mustAccept(t, "Concat", must(t, "Concat", c, err), most, func(w []int) bool { return areTwo(a, b, w) })
		c, err = fsa.Star(a)
		mustAccept(t, "Star", must(t, "Star", c, err), most, func(w []int) bool { return areSome(a, w) })
	}
}

func reversed(w []int) []int {
	out := slices.Clone(w)
	slices.Reverse(out)
	return out
}

// areTwo reports whether a word consists of one of a and one of b.
func areTwo(a, b api.Automaton, w []int) bool {
	for i := range len(w) + 1 {
		if accepts(a, w[:i]) && accepts(b, w[i:]) {
			return true
		}
	}
	return false
}

// areSome reports whether a word consists of any number of words of a.
func areSome(a api.Automaton, w []int) bool {
	is := make([]bool, len(w)+1) // of each prefix
	is[0] = true
	for j := range is {
		for i := range j {
			is[j] = is[j] || is[i] && accepts(a, w[i:j])
		}
	}
	return is[len(w)]
}

// P6.2: Words accepts just the words of the list, in whatever order, and as often as they stand there.
func TestWordsRandom(t *testing.T) {
	r := rand.New(rand.NewSource(65))
	for range 2000 {
		symbols := 1 + r.Intn(3)
		var l [][]int
		for range r.Intn(8) {
			w := make([]int, r.Intn(6))
			for i := range w {
				w[i] = r.Intn(symbols)
			}
			l = append(l, w)
		}
		kept := slices.Clone(l)
		a, err := fsa.Words(symbols, l)
		mustAccept(t, "Words", must(t, "Words", a, err), 5, func(w []int) bool {
			return slices.ContainsFunc(l, func(v []int) bool { return slices.Equal(v, w) })
		})
		for i, w := range l {
			if !slices.Equal(w, kept[i]) {
				t.Fatal("Words changes its list")
			}
		}
		r.Shuffle(len(l), func(i, j int) { l[i], l[j] = l[j], l[i] })
		b, err := fsa.Words(symbols, append(l, l...))
		mustBe(t, "Words in another order", b, err, a)
	}
}

// law is an equation between automata that are made of three ones.
type law struct {
	name        string
	left, right func(m *maker, a, b, c api.Automaton) api.Automaton
}

// maker constructs, and keeps whether a construction had an error.
type maker struct{ fails bool }

func (m *maker) take(a api.Automaton, err api.Errno) api.Automaton {
	m.fails = m.fails || err != api.OK
	return a
}

func (m *maker) not(a api.Automaton) api.Automaton  { return m.take(fsa.Complement(a)) }
func (m *maker) back(a api.Automaton) api.Automaton { return m.take(fsa.Reverse(a)) }
func (m *maker) star(a api.Automaton) api.Automaton { return m.take(fsa.Star(a)) }
func (m *maker) canon(a api.Automaton) api.Automaton {
	return m.take(fsa.Canon(a))
}
func (m *maker) cat(a, b api.Automaton) api.Automaton { return m.take(fsa.Concat(a, b)) }
func (m *maker) join(a, b api.Automaton, how int) api.Automaton {
	return m.take(fsa.Combine(a, b, how))
}

func laws() []law {
	return []law{
		{"Complement undoes itself", func(m *maker, a, b, c api.Automaton) api.Automaton { return m.not(m.not(a)) }, func(m *maker, a, b, c api.Automaton) api.Automaton { return m.canon(a) }},
		{"Reverse undoes itself", func(m *maker, a, b, c api.Automaton) api.Automaton { return m.back(m.back(a)) }, func(m *maker, a, b, c api.Automaton) api.Automaton { return m.canon(a) }},
		{"de Morgan, and", func(m *maker, a, b, c api.Automaton) api.Automaton { return m.not(m.join(a, b, api.FsaAnd)) }, func(m *maker, a, b, c api.Automaton) api.Automaton { return m.join(m.not(a), m.not(b), api.FsaOr) }},
		{"de Morgan, or", func(m *maker, a, b, c api.Automaton) api.Automaton { return m.not(m.join(a, b, api.FsaOr)) }, func(m *maker, a, b, c api.Automaton) api.Automaton { return m.join(m.not(a), m.not(b), api.FsaAnd) }},
		{"Minus", func(m *maker, a, b, c api.Automaton) api.Automaton { return m.join(a, b, api.FsaMinus) }, func(m *maker, a, b, c api.Automaton) api.Automaton { return m.join(a, m.not(b), api.FsaAnd) }},
		{"Xor", func(m *maker, a, b, c api.Automaton) api.Automaton { return m.join(a, b, api.FsaXor) }, func(m *maker, a, b, c api.Automaton) api.Automaton {
			return m.join(m.join(a, b, api.FsaMinus), m.join(b, a, api.FsaMinus), api.FsaOr)
		}},
		{"Reverse of Concat", func(m *maker, a, b, c api.Automaton) api.Automaton { return m.back(m.cat(a, b)) }, func(m *maker, a, b, c api.Automaton) api.Automaton { return m.cat(m.back(b), m.back(a)) }},
		{"Star of Star", func(m *maker, a, b, c api.Automaton) api.Automaton { return m.star(m.star(a)) }, func(m *maker, a, b, c api.Automaton) api.Automaton { return m.star(a) }},
		{"Reverse of Star", func(m *maker, a, b, c api.Automaton) api.Automaton { return m.back(m.star(a)) }, func(m *maker, a, b, c api.Automaton) api.Automaton { return m.star(m.back(a)) }},
		{"Concat is associative", func(m *maker, a, b, c api.Automaton) api.Automaton { return m.cat(m.cat(a, b), c) }, func(m *maker, a, b, c api.Automaton) api.Automaton { return m.cat(a, m.cat(b, c)) }},
		{"Concat distributes on the left", func(m *maker, a, b, c api.Automaton) api.Automaton { return m.cat(a, m.join(b, c, api.FsaOr)) }, func(m *maker, a, b, c api.Automaton) api.Automaton {
			return m.join(m.cat(a, b), m.cat(a, c), api.FsaOr)
		}},
		{"Concat distributes on the right", func(m *maker, a, b, c api.Automaton) api.Automaton { return m.cat(m.join(a, b, api.FsaOr), c) }, func(m *maker, a, b, c api.Automaton) api.Automaton {
			return m.join(m.cat(a, c), m.cat(b, c), api.FsaOr)
		}},
	}
}

// P6.6: laws.
func TestLaws(t *testing.T) {
	r := rand.New(rand.NewSource(66))
	for _, x := range laws() {
		for range 400 {
			symbols := 1 + r.Intn(3)
			a, b, c := random(r, 5, symbols), random(r, 5, symbols), random(r, 5, symbols)
			m := &maker{}
			left, right := x.left(m, a, b, c), x.right(m, a, b, c)
			if !m.fails && !fsa.Same(left, right) {
				t.Fatalf("%s: %v and %v", x.name, left, right)
			}
			if m.fails {
				t.Fatalf("%s: an error for %v, %v, %v", x.name, a, b, c)
			}
		}
	}
}
