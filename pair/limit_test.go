package pair_test

import (
	"slices"
	"testing"

	"cayley/api"
	"cayley/fsa"
	"cayley/pair"
)

// mustHave tests the number of states of a construction.
func mustHave(t *testing.T, name string, a api.Automaton, err api.Errno, states int) {
	t.Helper()
	if err != api.OK || !fsa.IsCanon(a) || len(a.Next) != states {
		t.Errorf("%s: %d states, %d, not %d", name, len(a.Next), err, states)
	}
}

// diagonal returns the diagonal of a language of two letters.
func diagonal(t *testing.T, l api.Automaton) api.Automaton {
	t.Helper()
	a, err := pair.Diagonal(2, l)
	if err != api.OK {
		t.Fatal(err)
	}
	return a
}

// power returns the pair of two equal words of k equal letters.
func power(letter, k int) [2][]int {
	w := slices.Repeat([]int{letter}, k)
	return join(w, w)
}

// marked returns the pairs of a word and one that marks, by its only letter 1, the letter number k from the end, which is 1: so the first words have two to the power of k sets of states.
func marked(k int) api.Automaton {
	a := blank(k+1, 8)
	a.Next[0][symbol(2, 0, 0)], a.Next[0][symbol(2, 1, 0)] = 0, 0
	a.Next[0][symbol(2, 1, 1)] = 1
	for s := 1; s < k; s++ {
		a.Next[s][symbol(2, 0, 0)], a.Next[s][symbol(2, 1, 0)] = s+1, s+1
	}
	a.Accept[k] = true
	return a
}

// toEmpty returns all pairs of a word and the empty one.
func toEmpty() api.Automaton {
	return auto(8, "1", []int{-1, -1, 0, -1, -1, 0, -1, -1})
}

// P8.1: a result may have 20000 states, and no more. A normal automaton has up to three states for one.
func TestNormalLimit(t *testing.T) {
	a, err := pair.Normal(2, ring(8, 6666))
	mustHave(t, "19998 states", a, err, 19998)
	a, err = pair.Normal(2, ring(8, 6667))
	mustFail(t, "20001 states", a, err, api.ErrLimit)
	a, err = pair.Normal(2, ring(8, 20000))
	mustFail(t, "60000 states", a, err, api.ErrLimit)
	a, err = pair.Normal(16, ring(288, 6666))
	mustHave(t, "16 letters", a, err, 19998)
	a, err = pair.Normal(2, relation(t, 2, power(1, 19999)))
	mustHave(t, "20000 states", a, err, 20000)
	a, err = pair.Normal(2, beside(chain(8, 3), ring(8, 19000)))
	mustHave(t, "states that are not reached", a, err, 8)
	a, err = pair.Converse(2, ring(8, 6666))
	mustHave(t, "Converse", a, err, 19998)
	a, err = pair.Converse(2, ring(8, 6667))
	mustFail(t, "Converse", a, err, api.ErrLimit)
	a, err = pair.Diagonal(2, ring(2, 20000))
	mustHave(t, "Diagonal", a, err, 20000)
}

// beside returns an automaton with the states of another one behind its own; they are reached by none.
func beside(a, b api.Automaton) api.Automaton {
	base := len(a.Next)
	a = copied(a)
	for s, row := range copied(b).Next {
		for x := range row {
			if row[x] >= 0 {
				row[x] += base
			}
		}
		a.Next = append(a.Next, row)
		a.Accept = append(a.Accept, b.Accept[s])
	}
	return a
}

// P8.2: the limits of Combine: of states; of pairs, 50000 of which may be reached at least; but none of the normal automata themselves.
func TestCombineLimit(t *testing.T) {
	first, second := relation(t, 2, power(0, 10000)), relation(t, 2, power(1, 10000))
	a, err := pair.Combine(2, api.FsaOr, first, second)
	mustHave(t, "20000 states", a, err, 20000)
	a, err = pair.Combine(2, api.FsaXor, first, relation(t, 2, power(1, 10001)))
	mustFail(t, "20001 states", a, err, api.ErrLimit)
	empty := relation(t, 2, join(nil, nil))
	for _, m := range []int{10000, 16666} {
		a, err = pair.Combine(2, api.FsaAnd, ring(8, m), empty)
		mustBe(t, "of many states to one", a, err, empty)
		a, err = pair.Combine(2, api.FsaMinus, empty, ring(8, m))
		mustBe(t, "of many states to none", a, err, none(8))
		a, err = pair.Combine(2, api.FsaXor, ring(8, m), ring(8, m))
		mustBe(t, "a relation without itself", a, err, none(8))
	}
	a, err = pair.Combine(2, api.FsaAnd, diagonal(t, ringLast(2, 222, 0)), diagonal(t, ringLast(2, 223, 1)))
	mustBe(t, "222 * 223 pairs, and 444 more", a, err, none(8))
	a, err = pair.Combine(2, api.FsaAnd, diagonal(t, ring(2, 140)), diagonal(t, ring(2, 141)))
	mustHave(t, "19740 states", a, err, 19740)
	a, err = pair.Combine(2, api.FsaAnd, diagonal(t, ring(2, 141)), diagonal(t, ring(2, 142)))
	mustFail(t, "20022 states", a, err, api.ErrLimit)
	a, err = pair.Combine(2, api.FsaOr, diagonal(t, ring(2, 10007)), diagonal(t, ring(2, 10009)))
	mustFail(t, "100160063 states", a, err, api.ErrLimit)
	a, err = pair.Combine(2, api.FsaAnd, diagonal(t, ringLast(2, 400, 0)), diagonal(t, ringLast(2, 401, 1)))
	if err != api.ErrLimit {
		mustBe(t, "400 * 401 pairs, and more", a, err, none(8))
	}
}

// P8.2: the limits of Compose and Project: of states; of sets, 50000 of which may be reached at least; but none of the normal automata themselves.
func TestSetsLimit(t *testing.T) {
	a, err := pair.Compose(2, relation(t, 2, power(0, 19999)), all(8))
	mustFail(t, "Compose, 19999 letters and any", a, err, api.ErrLimit)
	a, err = pair.Compose(2, relation(t, 2, power(0, 19999)), diagonal(t, all(2)))
	mustHave(t, "Compose, 20000 states", a, err, 20000)
	a, err = pair.Compose(2, diagonal(t, ring(2, 140)), diagonal(t, ring(2, 141)))
	mustHave(t, "Compose, 19740 states", a, err, 19740)
	a, err = pair.Compose(2, diagonal(t, ring(2, 141)), diagonal(t, ring(2, 142)))
	mustFail(t, "Compose, 20022 states", a, err, api.ErrLimit)
	a, err = pair.Compose(2, diagonal(t, ringLast(2, 222, 0)), diagonal(t, ringLast(2, 223, 1)))
	mustBe(t, "Compose, 222 * 223 sets, and 444 more", a, err, none(8))
	every, _ := pair.Normal(2, all(8))
	a, err = pair.Compose(2, ring(8, 8000), all(8))
	mustBe(t, "Compose, 24000 states of a normal automaton", a, err, every)
	a, err = pair.Compose(2, all(8), ring(8, 8000))
	mustBe(t, "Compose, 24000 states of the second one", a, err, every)

	for k, states := range map[int]int{2: 4, 10: 1024, 14: 1 << 14} {
		a, err = pair.Project(2, 0, marked(k))
		mustHave(t, "Project, marked", a, err, states)
		a, err = pair.Compose(2, marked(k), toEmpty())
		mustHave(t, "Compose, marked", a, err, states)
		a, err = pair.Project(2, 1, marked(k))
		mustHave(t, "Project on the marks", a, err, k+1)
	}
	for _, k := range []int{15, 17, 60, 2000} {
		a, err = pair.Project(2, 0, marked(k))
		mustFail(t, "Project, marked", a, err, api.ErrLimit)
		a, err = pair.Compose(2, marked(k), toEmpty())
		mustFail(t, "Compose, marked", a, err, api.ErrLimit)
	}
	for tape := range 2 {
		a, err = pair.Project(2, tape, relation(t, 2, power(0, 19999)))
		mustHave(t, "Project, 20000 states", a, err, 20000)
		a, err = pair.Project(2, tape, ring(8, 20000))
		mustBe(t, "Project, 60000 states of a normal automaton", a, err, all(2))
	}
}

// P8.2: Restrict has no limit on what is reached, but for one that is far above 50000.
func TestRestrictLimit(t *testing.T) {
	id := diagonal(t, all(2))
	a, err := pair.Restrict(2, id, ring(2, 140), ring(2, 141))
	mustHave(t, "19740 states", a, err, 19740)
	a, err = pair.Restrict(2, id, ring(2, 141), ring(2, 142))
	mustFail(t, "20022 states", a, err, api.ErrLimit)
	a, err = pair.Restrict(2, all(8), ring(2, 100), ring(2, 100))
	mustHave(t, "300 states", a, err, 300)
	a, err = pair.Restrict(2, all(8), ring(2, 140), ring(2, 141))
	mustFail(t, "19740 states and more behind the end of a word", a, err, api.ErrLimit)
	a, err = pair.Restrict(2, id, ringLast(2, 400, 0), ringLast(2, 401, 1))
	mustBe(t, "400 * 401 triples, and more", a, err, none(8))
	a, err = pair.Restrict(2, all(8), chain(2, 19999), chain(2, 19999))
	mustHave(t, "20000 states", a, err, 20000)
	empty := language(t, 2, nil)
	a, err = pair.Restrict(2, ring(8, 20000), empty, empty)
	mustBe(t, "60000 states of a normal automaton", a, err, relation(t, 2, join(nil, nil)))
	a, err = pair.Restrict(2, all(8), none(2), all(2))
	mustBe(t, "no first word", a, err, none(8))
	a, err = pair.Restrict(2, all(8), all(2), none(2))
	mustBe(t, "no second word", a, err, none(8))
}
