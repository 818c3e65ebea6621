package rope

import "cayley/api"

// Differ returns the index of the first difference, or -1.
func Differ(a, b []api.RopeNode) (int, api.Errno) {
	lengthA, err := measure(a)
	if err != api.OK {
		return 0, err
	}
	lengthB, err := measure(b)
	if err != api.OK {
		return 0, err
	}
	lettersA, lettersB := lengthA(len(a)-1), lengthB(len(b)-1)
	switch {
	case max(lettersA, lettersB) <= api.MaxWord:
		return differShort(expand(a, lengthA), expand(b, lengthB)), api.OK
	case max(len(a), len(b)) > api.MaxRopeDiffer:
		return 0, api.ErrLimit
	case least(lettersA, lettersB) == 0:
		return 0, api.OK
	}
	return differLong(a, b), api.OK
}

// differShort compares two words letter by letter.
func differShort(u, v string) int {
	if u == v {
		return -1
	}
	shorter := least(len(u), len(v))
	for i := range shorter {
		if u[i] != v[i] {
			return i
		}
	}
	return shorter
}

// differLong compares the words of two ropes that are not empty. It writes both as digests of one book, and compares what is left of them digest by digest: equal ones are passed at once; of different ones, the later one, which is no part of the other, is opened. That is exact whatever the digests are; that the common parts of both words have become the same digests only makes it fast.
func differLong(a, b []api.RopeNode) int {
	book, digestA, digestB := squeeze(a, b)
	restA, restB := []run{{digestA, 1}}, []run{{digestB, 1}}
	passed := 0
	for len(restA) > 0 && len(restB) > 0 {
		nextA, nextB := restA[len(restA)-1], restB[len(restB)-1]
		switch {
		case nextA.of == nextB.of:
			times := least(nextA.times, nextB.times)
			passed += times * book.lengths[nextA.of]
			restA, restB = drop(restA, times), drop(restB, times)
		case book.isLetter(nextA.of) && book.isLetter(nextB.of):
			return passed
		case nextA.of > nextB.of:
			restA = book.open(restA)
		default:
			restB = book.open(restB)
		}
	}
	if len(restA) == len(restB) {
		return -1
	}
	return passed
}

// drop takes copies off the next run of what is left of a word, which stands at the end.
func drop(rest []run, times int) []run {
	last := len(rest) - 1
	rest[last].times -= times
	if rest[last].times == 0 {
		return rest[:last]
	}
	return rest
}
