package abel

import (
	"math"

	"cayley/api"
)

type integer interface {
	~int | ~int8 | ~int16 | ~int32 | ~int64 | ~uint | ~uint8 | ~uint16 | ~uint32 | ~uint64
}

// gcd returns the greatest common divisor of two numbers, neither of which is negative.
func gcd[N integer](a, b N) N {
	for b != 0 {
		a, b = b, a%b
	}
	return a
}

// modulo returns the number from 0 to n - 1 that is congruent to x.
func modulo(x, n int) int {
	x %= n
	if x < 0 {
		x += n
	}
	return x
}

// product returns a b. It panics if that is no int.
func product(a, b int) int {
	p := a * b
	mustFit(a == 0 || p/a == b && (a != -1 || b != math.MinInt))
	return p
}

// sum returns a + b. It panics if that is no int.
func sum(a, b int) int {
	s := a + b
	mustFit((s < a) == (b < 0))
	return s
}

// mustFit leaves a computation as one that overflows unless a condition holds.
func mustFit(condition bool) {
	if !condition {
		panic(api.ErrUnknown)
	}
}

// areWithin reports whether the absolute values of numbers are at most a limit.
func areWithin(list []int, limit int) bool {
	for _, x := range list {
		if x < -limit || x > limit {
			return false
		}
	}
	return true
}
