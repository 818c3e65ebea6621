package abel

import (
	"math"
	"testing"

	"cayley/api"
)

// overflows reports whether a computation leaves by a panic.
func overflows(compute func()) (did bool) {
	defer func() { did = recover() != nil }()
	compute()
	return false
}

// All sums are exact, or none at all.
func TestArithmetic(t *testing.T) {
	const least, most = math.MinInt, math.MaxInt
	for _, x := range []struct {
		a, b          int
		sum, product  int
		isSum, isProd bool
	}{
		{0, least, least, 0, true, true}, {least, 0, least, 0, true, true}, {1, most, 0, most, false, true}, {most, 1, 0, most, false, true}, {-1, least, 0, 0, false, false}, {least, -1, 0, 0, false, false}, {-1, most, most - 1, -most, true, true}, {1, least, least + 1, least, true, true},
		{1 << 32, 1 << 31, 3 << 31, 0, true, false}, {1 << 31, 1 << 31, 1 << 32, 1 << 62, true, true}, {-1 << 32, 1 << 31, -1 << 31, least, true, true}, {3, most / 2, most/2 + 3, 0, true, false}, {most, most, 0, 0, false, false}, {least, least, 0, 0, false, false}, {most, least, -1, 0, true, false}, {7, -3, 4, -21, true, true},
	} {
		if overflows(func() { sum(x.a, x.b) }) == x.isSum || x.isSum && sum(x.a, x.b) != x.sum {
			t.Errorf("the sum of %d and %d", x.a, x.b)
		}
		if overflows(func() { product(x.a, x.b) }) == x.isProd || x.isProd && product(x.a, x.b) != x.product {
			t.Errorf("the product of %d and %d", x.a, x.b)
		}
	}
	if gcd(12, 18) != 6 || gcd(0, 5) != 5 || gcd(5, 0) != 5 || gcd(0, 0) != 0 || gcd(uint8(200), 150) != 50 {
		t.Error("gcd")
	}
}

// Relators beyond those of any presentation, whose numbers do not fit.
func TestOverflowIsUnknown(t *testing.T) {
	var relators matrix
	for i := range 8 {
		var r row
		for j := range 8 {
			r.entries[j] = 1000003*i*i + 7000001*j*j*j + 999999937*((i+2*j)%3)
		}
		relators = append(relators, r)
	}
	a, err := certify(8, relators)
	if err != api.ErrUnknown || len(a.Torsion)+a.Rank+len(a.Images)+len(a.Lifts) > 0 {
		t.Errorf("%v, %d", a, err)
	}
}
