package pair

import "slices"

// alike stands for the first state of a couple, if the images are equal so far.
const alike = -1

// couple is to where a prefix of a word leads with the prefixes of two images: two states, the lesser one first, or, with equal prefixes, alike and a state.
type couple [2]int32

// coupled returns the couple of two states.
func coupled(p, q int32) couple {
	return couple{min(p, q), max(p, q)}
}

// forks are the words that have several images under a relation, of which the machine is normal.
type forks struct {
	letters
	*machine
	one     []bool // of each state: whether an image may end from it, without letters of the word
	several []bool // of each state: whether several images may
	couples []couple
	met     map[couple]bool
}

func newForks(n letters, m *machine) *forks {
	f := &forks{letters: n, machine: m, met: map[couple]bool{}}
	for s := range m.states() {
		ways := len(n.by(m.from(s), n.pad()))
		if m.accept[s] {
			ways++
		}
		f.one = append(f.one, ways > 0)
		f.several = append(f.several, ways > 1)
	}
	f.several = m.closure(f.several, func(a arc) bool { return int(a.symbol) >= n.symbol(n.pad(), 0) })
	return f
}

// group is the couples to which one word leads, and no lesser one: those up to end, behind the group ahead.
type group struct {
	parent, letter int // it is the word of another group, and a letter
	end            int
}

// least returns the least word with several images, and whether there is one. Words come up in shortlex order, so a couple belongs to the first one that leads to it.
func (f *forks) least() ([]int, bool) {
	if f.states() == 0 {
		return nil, false
	}
	f.meet(couple{alike, f.start()})
	groups := []group{{end: 1}}
	start := 0
	for i := 0; i < len(groups); i++ {
		own := f.couples[start:groups[i].end]
		start = groups[i].end
		if slices.ContainsFunc(own, f.succeeds) {
			return wordOf(groups, i), true
		}
		for x := range f.pad() {
			before := len(f.couples)
			for _, c := range own {
				f.follow(c, x)
			}
			if len(f.couples) > before {
				groups = append(groups, group{i, x, len(f.couples)})
			}
		}
	}
	return nil, false
}

// wordOf returns the word of a group.
func wordOf(groups []group, i int) []int {
	var w []int
	for i > 0 {
		w = append(w, groups[i].letter)
		i = groups[i].parent
	}
	slices.Reverse(w)
	return w
}

// succeeds tells whether two images may end from a couple, without letters of the word.
func (f *forks) succeeds(c couple) bool {
	if c[0] == alike {
		return f.several[c[1]]
	}
	return f.one[c[0]] && f.one[c[1]]
}

// meet adds a couple, if it is new.
func (f *forks) meet(c couple) {
	if !f.met[c] {
		f.met[c] = true
		f.couples = append(f.couples, c)
	}
}

// follow meets all couples to which a letter leads from one.
func (f *forks) follow(c couple, x int) {
	second := f.by(f.from(c[1]), x)
	if c[0] != alike {
		for _, a := range f.by(f.from(c[0]), x) {
			for _, b := range second {
				f.meet(coupled(a.to, b.to))
			}
		}
		return
	}
	for i, b := range second {
		f.meet(couple{alike, b.to})
		for _, a := range second[:i] {
			f.meet(coupled(a.to, b.to))
		}
	}
}
