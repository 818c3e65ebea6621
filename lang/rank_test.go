package lang_test

import (
	"math/rand"
	"slices"
	"testing"

	"cayley/api"
	"cayley/lang"
)

func mustRank(t *testing.T, name string, a api.Automaton, w []int, want int, wantErr api.Errno) {
	t.Helper()
	if i, err := lang.Rank(a, w); i != want || err != wantErr {
		t.Errorf("Rank in %s of %s, %d symbols: %d, %d, not %d, %d", name, brief(w), len(w), i, err, want, wantErr)
	}
}

func mustUnrank(t *testing.T, name string, a api.Automaton, i int, want []int, wantErr api.Errno) {
	t.Helper()
	if w, err := lang.Unrank(a, i); !slices.Equal(w, want) || err != wantErr {
		t.Errorf("Unrank of %s, %d: %s, %d symbols, %d, not %s, %d symbols, %d", name, i, brief(w), len(w), err, brief(want), len(want), wantErr)
	}
}

// numeral returns the word with a rank among all words of so many symbols: the number is written with the digits 1 to symbols.
func numeral(symbols, i int) []int {
	var w []int
	for ; i > 0; i = (i - 1) / symbols {
		w = append(w, (i-1)%symbols)
	}
	slices.Reverse(w)
	return w
}

// P7.2: the chapter's examples, and others.
func TestRank(t *testing.T) {
	mustRank(t, "E", even(), []int{1, 1}, 3, api.OK)
	mustRank(t, "E", even(), []int{1, 0}, 3, api.OK)
	mustRank(t, "E", even(), nil, 0, api.OK)
	mustRank(t, "E", even(), []int{}, 0, api.OK)
	mustRank(t, "E", even(), []int{0}, 1, api.OK)
	mustRank(t, "E", even(), []int{1}, 2, api.OK)
	mustRank(t, "three words", three(), []int{0, 0}, 1, api.OK)
	mustRank(t, "three words", three(), []int{0, 1, 1, 1}, 3, api.OK)
	mustRank(t, "three words", three(), []int{1, 1, 1}, 3, api.OK)
	mustRank(t, "three words", three(), make([]int, 1000), 3, api.OK)
	mustRank(t, "no states", none(3), []int{2, 0, 1}, 0, api.OK)
	mustRank(t, "no acceptance", auto(2, "0", []int{0, 0}), make([]int, 1000), 0, api.OK)
	mustRank(t, "one symbol", all(1), make([]int, 1000), 1000, api.OK)
	mustRank(t, "a circle of 20000", ring(20000, 0, 3, 999, 1000), make([]int, 1000), 3, api.OK)
	mustRank(t, "far words", far(1000), make([]int, 1000), 0, api.OK)
	mustRank(t, "far words", far(1001), slices.Repeat([]int{399}, 1000), 0, api.OK)
}

// P7.2: the rank may be 10^18, and no more.
func TestRankLimit(t *testing.T) {
	for _, symbols := range []int{2, 10, 256, 399, 400} {
		for _, i := range []int{0, 1, symbols, symbols + 1, most - 1, most} {
			mustRank(t, "all", all(symbols), numeral(symbols, i), i, api.OK)
		}
		mustRank(t, "all", all(symbols), numeral(symbols, most+1), 0, api.ErrLimit)
		mustRank(t, "all", all(symbols), numeral(symbols, 1<<62), 0, api.ErrLimit)
		mustRank(t, "all", all(symbols), make([]int, 1000), 0, api.ErrLimit)
	}
	zeros := make([]int, 1000)
	mustRank(t, "10^18 words", chain(10, 18), zeros[:19], most, api.OK)
	mustRank(t, "10^18 words", chain(10, 18), zeros, most, api.OK)
	mustRank(t, "10^18 words", chain(10, 18), slices.Repeat([]int{9}, 18), most-1, api.OK)
	mustRank(t, "10^18 + 1 words", chain(10, 0, 18), zeros[:19], 0, api.ErrLimit)
	mustRank(t, "10^18 + 1 words", chain(10, 0, 18), zeros[:18], 1, api.OK)
	mustRank(t, "10^18 + 1 words", chain(10, 0, 18), slices.Repeat([]int{9}, 18), most, api.OK)
	mustRank(t, "10^18 + 1 words", tenPlus(18), slices.Repeat([]int{10}, 18), most, api.OK)
	mustRank(t, "far words", far(1000), append([]int{1}, zeros[1:]...), 0, api.ErrLimit)
	mustRank(t, "far words", far(1000), append(make([]int, 992), 1, 0, 0, 0, 0, 0, 0, 0), 0, api.ErrLimit)
	mustRank(t, "far words", far(1000), append(make([]int, 992), 0, 1, 0, 0, 0, 0, 0, 0), power(400, 6), api.OK)
	mustRank(t, "far words", far(999), zeros, 0, api.ErrLimit)
	mustRank(t, "E", even(), zeros, 0, api.ErrLimit)
}

// P7.2: words by their ranks.
func TestUnrank(t *testing.T) {
	mustUnrank(t, "E", even(), 3, []int{1, 1}, api.OK)
	mustUnrank(t, "E", even(), 0, nil, api.OK)
	mustUnrank(t, "E", even(), 2, []int{0, 0}, api.OK)
	mustUnrank(t, "three words", three(), 2, []int{1, 1, 0}, api.OK)
	mustUnrank(t, "10^18 words", chain(10, 18), most-1, slices.Repeat([]int{9}, 18), api.OK)
	mustUnrank(t, "10^18 + 1 words", chain(10, 0, 18), most, slices.Repeat([]int{9}, 18), api.OK)
	mustUnrank(t, "10^18 + 1 words", tenPlus(18), most, slices.Repeat([]int{10}, 18), api.OK)
	mustUnrank(t, "10^18 words and one", tenPlus(1000), most, slices.Repeat([]int{10}, 1000), api.OK)
	mustUnrank(t, "one symbol", all(1), 1000, make([]int, 1000), api.OK)
	mustUnrank(t, "far words", far(1000), 0, make([]int, 1000), api.OK)
	mustUnrank(t, "far words", far(1000), most, append(make([]int, 993), numeral400(most)...), api.OK)
	for _, symbols := range []int{2, 10, 256, 399, 400} {
		for _, i := range []int{0, 1, symbols, symbols + 1, most - 1, most} {
			mustUnrank(t, "all", all(symbols), i, numeral(symbols, i), api.OK)
		}
	}
	mustUnrank(t, "a circle of 20000", ring(20000, 0, 3, 999, 1000), 3, make([]int, 1000), api.OK)
}

// numeral400 returns the last 7 digits of a number, to the base 400.
func numeral400(i int) []int {
	w := make([]int, 7)
	for at := range w {
		w[6-at] = i % 400
		i /= 400
	}
	return w
}

// P7.2: words that are not there, or too long; what is not there counts first.
func TestUnrankErrors(t *testing.T) {
	for name, bad := range invalid() {
		mustRank(t, name, bad, nil, 0, api.ErrFsa)
		mustRank(t, name, bad, make([]int, 1001), 0, api.ErrFsa)
		mustUnrank(t, name, bad, 0, nil, api.ErrFsa)
		mustUnrank(t, name, bad, -1, nil, api.ErrFsa)
	}
	for _, i := range outside(most) {
		mustUnrank(t, "E", even(), i, nil, api.ErrArg)
		mustUnrank(t, "no states", none(1), i, nil, api.ErrArg)
	}
	mustUnrank(t, "no states", none(1), 0, nil, api.ErrNone)
	mustUnrank(t, "no states", none(1), most, nil, api.ErrNone)
	mustUnrank(t, "no acceptance", auto(1, "0", []int{0}), 0, nil, api.ErrNone)
	mustUnrank(t, "three words", three(), 3, nil, api.ErrNone)
	mustUnrank(t, "three words", three(), most, nil, api.ErrNone)
	mustUnrank(t, "10^18 words", chain(10, 18), most, nil, api.ErrNone)
	mustUnrank(t, "one symbol", all(1), 1001, nil, api.ErrLimit)
	mustUnrank(t, "one symbol", all(1), most, nil, api.ErrLimit)
	mustUnrank(t, "1000 and 1001 symbols", chain(1, 1000, 1001), 0, make([]int, 1000), api.OK)
	mustUnrank(t, "1000 and 1001 symbols", chain(1, 1000, 1001), 1, nil, api.ErrLimit)
	mustUnrank(t, "1000 and 1001 symbols", chain(1, 1000, 1001), 2, nil, api.ErrNone)
	mustUnrank(t, "19999 symbols", chain(1, 19999), 0, nil, api.ErrLimit)
	mustUnrank(t, "19999 symbols", chain(1, 19999), 1, nil, api.ErrNone)
	mustUnrank(t, "far words", far(1001), most, nil, api.ErrLimit)
	mustUnrank(t, "10^18 words and one", tenPlus(1001), most, nil, api.ErrLimit)
	mustUnrank(t, "a circle", ring(20000, 1001), 0, nil, api.ErrLimit)
}

// P7.2: words that are too long, or none, in this order.
func TestRankErrors(t *testing.T) {
	mustRank(t, "E", even(), make([]int, 1001), 0, api.ErrArg)
	mustRank(t, "E", even(), slices.Repeat([]int{2}, 1001), 0, api.ErrArg)
	for _, symbol := range outside(1) {
		mustRank(t, "E", even(), []int{symbol}, 0, api.ErrForm)
		mustRank(t, "E", even(), []int{0, symbol, 0}, 0, api.ErrForm)
		mustRank(t, "no states", none(2), []int{symbol}, 0, api.ErrForm)
		mustRank(t, "three words", three(), []int{1, 1, 1, 1, 1, symbol}, 0, api.ErrForm)
		mustRank(t, "all", all(2), append(make([]int, 999), symbol), 0, api.ErrForm)
	}
	mustRank(t, "400 symbols", all(400), []int{399}, 400, api.OK)
	mustRank(t, "400 symbols", all(400), []int{400}, 0, api.ErrForm)
}

// P7.2, P7.4: against the words themselves. Each word has the rank that is the number of accepted ones ahead of it, and accepted words are those of their ranks.
func TestRankSamples(t *testing.T) {
	for a := range samples(72, 800) {
		name := brief(a)
		rank := 0
		for w := range words(a.Symbols, 4) {
			mustRank(t, name, a, w, rank, api.OK)
			if accepts(a, w) {
				mustUnrank(t, name, a, rank, w, api.OK)
				rank++
			}
		}
		if isFinite(a) { // there are at most 5 states
			mustUnrank(t, name, a, rank, nil, api.ErrNone)
		}
		if t.Failed() {
			return
		}
	}
}

// P7.4: ranks are a bijection, also where words are long and ranks are great.
func TestBijection(t *testing.T) {
	r := rand.New(rand.NewSource(74))
	long := 0
	for range 600 {
		a := random(r, 12, 1+r.Intn(4))
		i := r.Intn(most >> r.Intn(60))
		w, err := lang.Unrank(a, i)
		if err != api.OK {
			continue
		}
		if len(w) > 20 {
			long++
		}
		if !accepts(a, w) {
			t.Fatalf("Unrank of %s, %d: %v is not accepted", brief(a), i, w)
		}
		mustRank(t, brief(a), a, w, i, api.OK)
		v, err := lang.Unrank(a, i+1)
		if err == api.OK && (len(v) < len(w) || len(v) == len(w) && slices.Compare(v, w) <= 0) {
			t.Fatalf("Unrank of %s, %d: %v; and one more: %v", brief(a), i, w, v)
		}
	}
	if long < 50 {
		t.Error("few long words:", long)
	}
}
