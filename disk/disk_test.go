package disk_test

import (
	"math"
	"math/rand"
	"slices"
	"strings"
	"testing"

	"cayley/api"
	"cayley/disk"
)

const allLetters = "aAbBcCdDeEfFgGhH"

type (
	cells = []api.Cell
	moves = []api.Move
)

func of(gens int, rels ...string) api.Presentation {
	return api.Presentation{Gens: gens, Rels: rels}
}

func cell(conj string, rel int, inv bool) api.Cell {
	return api.Cell{Conj: conj, Rel: rel, Inv: inv}
}

// plane is the free abelian group of rank 2.
var plane = of(2, "abAB")

func a(n int) string { return strings.Repeat("a", n) }

// reduce returns the free reduction of a word of any length.
func reduce(w string) string {
	var out []byte
	for _, c := range []byte(w) {
		out = append(out, c)
		if n := len(out); n > 1 && out[n-1]^out[n-2] == 32 {
			out = out[:n-2]
		}
	}
	return string(out)
}

// inverse returns the inverse of a word of any length.
func inverse(w string) string {
	out := []byte(w)
	slices.Reverse(out)
	for i := range out {
		out[i] ^= 32
	}
	return string(out)
}

// side returns the relator with an index, or its inverse.
func side(p api.Presentation, rel int, inv bool) string {
	if inv {
		return inverse(p.Rels[rel])
	}
	return p.Rels[rel]
}

// product returns the product of the cells, which isn't freely reduced.
func product(p api.Presentation, d cells) string {
	out := ""
	for _, c := range d {
		out += c.Conj + side(p, c.Rel, c.Inv) + inverse(c.Conj)
	}
	return out
}

// randomWord returns a word of k generators.
func randomWord(r *rand.Rand, k, length int) string {
	out := make([]byte, length)
	for i := range out {
		out[i] = allLetters[r.Intn(2*k)]
	}
	return string(out)
}

// randomPresentation returns a valid presentation of k generators with at least one relator.
func randomPresentation(r *rand.Rand, k int) api.Presentation {
	p := of(k)
	for most := 1 + r.Intn(4); len(p.Rels) < most; {
		if w := reduce(randomWord(r, k, 1+r.Intn(8))); w != "" {
			p.Rels = append(p.Rels, w)
		}
	}
	return p
}

// randomCells returns a disk of at most some cells, of which many cancel with a neighbour.
func randomCells(r *rand.Rand, p api.Presentation, most int) cells {
	var d cells
	for range r.Intn(most + 1) {
		c := cell(randomWord(r, p.Gens, r.Intn(6)), r.Intn(len(p.Rels)), r.Intn(2) == 0)
		if n := len(d); n > 0 && r.Intn(3) == 0 {
			c = d[n-1]
			c.Inv = !c.Inv
			c.Conj += "aA"
		}
		d = append(d, c)
	}
	return d
}

// boundary returns the boundary of a disk that is valid.
func boundary(t *testing.T, p api.Presentation, d cells) string {
	t.Helper()
	b, err := disk.Boundary(p, d)
	if err != api.OK {
		t.Fatalf("Boundary of %v over %v: %d", d, p, err)
	}
	return b
}

// P4.1
func TestBoundary(t *testing.T) {
	for _, x := range []struct {
		p    api.Presentation
		d    cells
		want string
	}{
		{plane, nil, ""}, {plane, cells{cell("", 0, false)}, "abAB"}, {plane, cells{cell("", 0, true)}, "baBA"}, {plane, cells{cell("a", 0, true)}, "abaBAA"},
		{plane, cells{cell("A", 0, false)}, "bABa"}, {plane, cells{cell("bBa", 0, true), cell("aaA", 0, false)}, ""}, {plane, cells{cell("", 0, false), cell("b", 0, false)}, "abbABB"},
		{of(1, "a", "AA"), cells{cell("a", 1, true), cell("", 0, false), cell("AAA", 0, false)}, "aaaa"}, {of(8, "h", "gH"), cells{cell("G", 1, false), cell("h", 0, true)}, "HgH"}, {of(1), nil, ""},
	} {
		if b, err := disk.Boundary(x.p, x.d); err != api.OK || b != x.want {
			t.Errorf("Boundary of %v over %v = %q, %d, not %q", x.d, x.p, b, err, x.want)
		}
	}
	r := rand.New(rand.NewSource(1))
	for i := range 3000 {
		p := randomPresentation(r, 1+i%8)
		d := randomCells(r, p, 8)
		if b := boundary(t, p, d); b != reduce(product(p, d)) {
			t.Errorf("Boundary of %v over %v = %q", d, p, b)
		}
	}
}

// P4.1
func TestProves(t *testing.T) {
	for w, want := range map[string]api.Errno{"abAB": api.OK, "abABaA": api.OK, "BbabbBAB": api.OK, "ab": api.ErrProof, "": api.ErrProof, "baBA": api.ErrProof, "bABa": api.ErrProof, "abABabAB": api.ErrProof} {
		if err := disk.Proves(plane, cells{cell("", 0, false)}, w); err != want {
			t.Errorf("Proves of %q: %d, not %d", w, err, want)
		}
	}
	for w, want := range map[string]api.Errno{"": api.OK, "aBbA": api.OK, "a": api.ErrProof, "abAB": api.ErrProof} {
		if err := disk.Proves(plane, nil, w); err != want {
			t.Errorf("Proves without cells of %q: %d, not %d", w, err, want)
		}
	}
}

// P4.1
func TestProductAndInverse(t *testing.T) {
	d, e := cells{cell("a", 0, false), cell("bB", 0, true)}, cells{cell("aA", 0, false)}
	for _, x := range []struct{ d, e, want cells }{
		{d, e, cells{d[0], d[1], e[0]}}, {e, d, cells{e[0], d[0], d[1]}}, {d, nil, d}, {nil, e, e}, {nil, nil, nil},
	} {
		if out, err := disk.Product(plane, x.d, x.e); err != api.OK || !slices.Equal(out, x.want) {
			t.Errorf("Product of %v and %v = %v, %d", x.d, x.e, out, err)
		}
	}
	for _, x := range []struct{ d, want cells }{
		{d, cells{cell("bB", 0, false), cell("a", 0, true)}}, {e, cells{cell("aA", 0, true)}}, {nil, nil},
	} {
		if out, err := disk.Inverse(plane, x.d); err != api.OK || !slices.Equal(out, x.want) {
			t.Errorf("Inverse of %v = %v, %d", x.d, out, err)
		}
	}
}

// P4.1
func TestConjugate(t *testing.T) {
	d := cells{cell("a", 0, false), cell("bB", 0, true)}
	for _, x := range []struct {
		d    cells
		u    string
		want cells
	}{
		{d, "A", cells{cell("", 0, false), cell("A", 0, true)}}, {d, "aAbAa", cells{cell("ba", 0, false), cell("b", 0, true)}}, {d, "", cells{cell("a", 0, false), cell("", 0, true)}}, {d, "bB", cells{cell("a", 0, false), cell("", 0, true)}},
		{cells{cell("BAAb", 0, true)}, "aab", cells{cell("b", 0, true)}}, {cells{cell("ba", 0, true)}, "AB", cells{cell("", 0, true)}}, {nil, "ab", nil},
	} {
		if out, err := disk.Conjugate(plane, x.d, x.u); err != api.OK || !slices.Equal(out, x.want) {
			t.Errorf("Conjugate of %v by %q = %v, %d", x.d, x.u, out, err)
		}
	}
}

// P4.2
func TestDisksAreAGroup(t *testing.T) {
	r := rand.New(rand.NewSource(2))
	for i := range 3000 {
		p := randomPresentation(r, 1+i%8)
		d, e, u := randomCells(r, p, 6), randomCells(r, p, 6), randomWord(r, p.Gens, r.Intn(8))
		b, c := boundary(t, p, d), boundary(t, p, e)
		both, err := disk.Product(p, d, e)
		inv, err2 := disk.Inverse(p, d)
		conj, err3 := disk.Conjugate(p, d, u)
		if err != api.OK || err2 != api.OK || err3 != api.OK {
			t.Fatalf("%v: %v, %v, %q: errors %d, %d, %d", p, d, e, u, err, err2, err3)
		}
		if boundary(t, p, both) != reduce(b+c) || boundary(t, p, inv) != inverse(b) || boundary(t, p, conj) != reduce(u+b+inverse(u)) {
			t.Errorf("%v: %v, %v, %q: other boundaries", p, d, e, u)
		}
	}
}

// simplify removes pairs as the chapter says it.
func simplify(d cells) cells {
	out := slices.Clone(d)
	for i := range out {
		out[i].Conj = reduce(out[i].Conj)
	}
	for i := 1; i < len(out); i++ {
		if x, y := out[i-1], out[i]; x.Conj == y.Conj && x.Rel == y.Rel && x.Inv != y.Inv {
			out = slices.Delete(out, i-1, i+1)
			i = 0
		}
	}
	return out
}

// P4.1
func TestSimplify(t *testing.T) {
	p := of(2, "abAB", "aa", "abAB")
	for _, x := range []struct{ d, want cells }{
		{nil, nil}, {cells{cell("bBa", 0, true)}, cells{cell("a", 0, true)}}, {cells{cell("", 0, true), cell("aA", 0, false)}, nil},
		{cells{cell("a", 0, false), cell("bB", 1, false), cell("", 1, true), cell("a", 0, true), cell("b", 0, false)}, cells{cell("b", 0, false)}},
		{cells{cell("a", 0, false), cell("a", 0, true), cell("a", 0, false)}, cells{cell("a", 0, false)}},
		{cells{cell("a", 0, false), cell("a", 0, false)}, cells{cell("a", 0, false), cell("a", 0, false)}}, {cells{cell("a", 0, false), cell("b", 0, true)}, cells{cell("a", 0, false), cell("b", 0, true)}},
		{cells{cell("", 0, false), cell("", 2, true)}, cells{cell("", 0, false), cell("", 2, true)}}, // the same relator, but not the same index
		{cells{cell("", 1, false), cell("a", 1, true)}, cells{cell("", 1, false), cell("a", 1, true)}},
	} {
		if out, err := disk.Simplify(p, x.d); err != api.OK || !slices.Equal(out, x.want) {
			t.Errorf("Simplify of %v = %v, %d", x.d, out, err)
		}
	}
	r := rand.New(rand.NewSource(3))
	for i := range 3000 {
		p := randomPresentation(r, 1+i%3)
		d := randomCells(r, p, 12)
		out, err := disk.Simplify(p, d)
		if err != api.OK || !slices.Equal(out, simplify(d)) || boundary(t, p, out) != boundary(t, p, d) {
			t.Errorf("Simplify of %v over %v = %v, %d", d, p, out, err)
		}
	}
}

// P4.1, P4.3, P4.5: results are new memory, and arguments stay as they are.
func TestNewMemory(t *testing.T) {
	d := cells{cell("aA", 0, false), cell("b", 0, true)}
	given := slices.Clone(d)
	list := moves{{Kind: api.InsertRel, At: 1, Shift: 2}, {Kind: api.DeletePair}}
	was := slices.Clone(list)
	out, _ := disk.Product(plane, d, nil)
	out2, _ := disk.Product(plane, nil, d)
	out3, _ := disk.Inverse(plane, d)
	out4, _ := disk.Conjugate(plane, d, "a")
	out5, _ := disk.Simplify(plane, d)
	for _, x := range []cells{out, out2, out3, out4, out5} {
		if len(x) != 2 {
			t.Errorf("%v has not two cells", x)
		}
		clear(x)
	}
	disk.Apply(plane, "ab", list)
	disk.FromMoves(plane, "ab", list)
	disk.ToMoves(plane, d, reduce(product(plane, d)))
	if !slices.Equal(d, given) || !slices.Equal(list, was) {
		t.Errorf("the arguments have become %v, %v", d, list)
	}
}

// calls are the errors that all functions return for their arguments; each of them has to have no result beside its error.
func calls(t *testing.T, p api.Presentation, d cells, w string, m moves) map[string]api.Errno {
	t.Helper()
	b, err := disk.Boundary(p, d)
	both, err2 := disk.Product(p, d, nil)
	both2, err3 := disk.Product(p, nil, d)
	inv, err4 := disk.Inverse(p, d)
	conj, err5 := disk.Conjugate(p, d, w)
	less, err6 := disk.Simplify(p, d)
	v, err7 := disk.Apply(p, w, m)
	from, err8 := disk.FromMoves(p, w, m)
	to, err9 := disk.ToMoves(p, d, w)
	for _, x := range []struct {
		err  api.Errno
		size int
	}{{err, len(b)}, {err2, len(both)}, {err3, len(both2)}, {err4, len(inv)}, {err5, len(conj)}, {err6, len(less)}, {err7, len(v)}, {err8, len(from)}, {err9, len(to)}} {
		if x.err != api.OK && x.size > 0 {
			t.Errorf("%.80v, %d cells, %.40q, %.80v: a result of %d beside the error %d", p, len(d), w, m, x.size, x.err)
		}
	}
	return map[string]api.Errno{"Boundary": err, "Proves": disk.Proves(p, d, w), "Product": err2, "Product as second": err3, "Inverse": err4, "Conjugate": err5, "Simplify": err6, "Apply": err7, "FromMoves": err8, "ToMoves": err9}
}

var (
	withWord = []string{"Proves", "Conjugate", "Apply", "FromMoves", "ToMoves"}
	withDisk = []string{"Boundary", "Proves", "Product", "Product as second", "Inverse", "Conjugate", "Simplify", "ToMoves"}
)

// P4.1, P4.3, P4.5: the error of the presentation comes first, whatever the other arguments are.
func TestInvalidPresentations(t *testing.T) {
	many := slices.Repeat([]string{"a"}, 61)
	for _, p := range []api.Presentation{
		of(0), of(9), of(-1), of(math.MaxInt), of(math.MinInt), of(1, many...), of(1, ""), of(1, "a", ""), of(1, a(201)), of(1, a(api.MaxWord+1)),
		of(1, "aA"), of(2, "abBA"), of(1, a(199)+"A"), of(2, "b", "Bb"), of(1, "b"), of(1, "B"), of(7, "h"), of(8, "i"), of(8, "I"), of(2, "a b"), of(2, "1"), of(2, "@"), of(2, "`"), of(2, "é"), of(2, "\xe1"), of(2, "\x01"),
	} {
		for _, d := range []cells{nil, {cell("", 0, false)}, {cell("?", -1, false)}} {
			for _, w := range []string{"", "?"} {
				for name, err := range calls(t, p, d, w, moves{{}}) {
					if err != api.ErrPres {
						t.Errorf("%s over %d, %.40q: %d", name, p.Gens, p.Rels, err)
					}
				}
			}
		}
	}
	for _, p := range []api.Presentation{of(1), of(8), of(1, a(200)), of(1, many[:60]...), of(8, "h", "H", "aBcDeFgH", "hA"), {Gens: 1, Rels: []string{}}} {
		for name, err := range calls(t, p, nil, "", nil) {
			if err != api.OK {
				t.Errorf("%s over %d, %.40q: %d", name, p.Gens, p.Rels, err)
			}
		}
	}
}

// P4.1, P4.3, P4.5: words come ahead of disks and of all else.
func TestInvalidWords(t *testing.T) {
	tooMany := make(moves, 100001)
	for _, w := range []string{"c", "C", "abc", "aAcC", "?", "a b", "1", "@", "`", "é", "ab\x00", "\xe1", a(api.MaxWord + 1), strings.Repeat("aA", api.MaxWord)} {
		for _, d := range []cells{nil, {cell("", 0, false)}, {cell("?", 0, false)}, {cell("", 1, false)}} {
			for _, m := range []moves{nil, {{}}, tooMany} {
				errs := calls(t, plane, d, w, m)
				for _, name := range withWord {
					if errs[name] != api.ErrWord {
						t.Errorf("%s with %.40q: %d", name, w, errs[name])
					}
				}
			}
		}
	}
}

// P4.1, P4.5: a disk that isn't valid, ahead of what its boundary and its size are.
func TestInvalidDisks(t *testing.T) {
	good := cell("aB", 0, true)
	disks := []cells{slices.Repeat(cells{{}}, api.MaxCells+1), slices.Repeat(cells{cell(a(10), 0, false)}, api.MaxCells+1), append(slices.Repeat(cells{cell(a(api.MaxWord), 0, false)}, 10), cell("a", 0, false)), slices.Repeat(cells{cell(a(api.MaxWord), 0, false)}, api.MaxCells)}
	for _, bad := range (cells{cell("", 1, false), cell("", -1, false), cell("", math.MaxInt, false), cell("", math.MinInt, true), cell("c", 0, false), cell("aCcA", 0, false), cell("?", 0, true), cell("a b", 0, false), cell("é", 0, false), cell(a(api.MaxWord+1), 0, false)}) {
		disks = append(disks, cells{bad}, cells{good, bad}, cells{bad, good})
	}
	for _, d := range disks {
		errs := calls(t, plane, d, a(api.MaxWord), nil)
		for _, name := range withDisk {
			if errs[name] != api.ErrCell {
				t.Errorf("%s of %d cells, the last one %.40v: %d", name, len(d), d[len(d)-1], errs[name])
			}
		}
	}
	for name, err := range calls(t, of(1), cells{{}}, "", nil) {
		if slices.Contains(withDisk, name) && err != api.ErrCell {
			t.Errorf("%s of a cell without relators: %d", name, err)
		}
	}
}

// P4.1: the largest disks.
func TestLargestDisks(t *testing.T) {
	long := slices.Repeat(cells{cell(a(api.MaxWord), 0, false)}, 10)
	flat := slices.Repeat(cells{cell(a(10), 0, false)}, api.MaxCells)
	for _, d := range []cells{long, flat} {
		errs := calls(t, plane, d, "", nil)
		for _, name := range []string{"Boundary", "Product", "Product as second", "Inverse", "Conjugate", "Simplify"} {
			if errs[name] != api.OK {
				t.Errorf("%s of %d cells: %d", name, len(d), errs[name])
			}
		}
	}
	b, err := disk.Boundary(of(1, a(200)), slices.Repeat(cells{{}}, api.MaxCells))
	if err != api.OK || b != a(200*api.MaxCells) {
		t.Errorf("a boundary of %d letters, %d", len(b), err)
	}
}

// P4.1
func TestLimitsOfTheProduct(t *testing.T) {
	many := make(cells, api.MaxCells)
	long := slices.Repeat(cells{cell(a(api.MaxWord), 0, false)}, 10)
	for _, x := range []struct {
		d, e cells
		want api.Errno
	}{
		{many, nil, api.OK}, {many, many[:1], api.ErrLimit}, {many[:1], many, api.ErrLimit}, {many[1:], many[:1], api.OK}, {many, many, api.ErrLimit},
		{long, many[:9], api.OK}, {many[:9], long, api.OK}, {long, cells{cell("a", 0, false)}, api.ErrLimit}, {long[:4], long[:6], api.OK}, {long[:4], long[:7], api.ErrLimit},
		{many, cells{cell("", 1, false)}, api.ErrCell}, {cells{cell("", 1, false)}, many, api.ErrCell},
	} {
		out, err := disk.Product(plane, x.d, x.e)
		if err != x.want || err != api.OK && len(out) > 0 {
			t.Errorf("Product of %d and %d cells: %d, not %d", len(x.d), len(x.e), err, x.want)
		}
	}
}

// P4.1
func TestLimitsOfConjugate(t *testing.T) {
	half := api.MaxWord / 2
	for _, x := range []struct {
		d    cells
		u    string
		want api.Errno
	}{
		{cells{cell(a(half), 0, false)}, a(half), api.OK}, {cells{cell(a(half), 0, false)}, a(half + 1), api.ErrLimit}, {cells{{}, cell(a(half), 0, false)}, strings.Repeat("A", half+1), api.ErrLimit},
		{cells{cell("a", 0, false)}, strings.Repeat("aA", half), api.ErrLimit}, {cells{{}}, strings.Repeat("aA", half), api.OK}, {cells{{}}, a(api.MaxWord), api.OK}, {nil, a(api.MaxWord), api.OK},
		{make(cells, 10), a(api.MaxWord), api.OK}, {make(cells, 11), a(api.MaxWord), api.ErrLimit}, {make(cells, api.MaxCells), a(10), api.OK}, {make(cells, api.MaxCells), a(11), api.ErrLimit}, {make(cells, api.MaxCells), a(api.MaxWord), api.ErrLimit},
		{make(cells, api.MaxCells), strings.Repeat("aA", half), api.OK}, {slices.Repeat(cells{cell(a(10), 0, false)}, api.MaxCells), strings.Repeat("A", 20), api.OK}, {slices.Repeat(cells{cell(a(10), 0, false)}, api.MaxCells), strings.Repeat("A", 21), api.ErrLimit},
	} {
		out, err := disk.Conjugate(plane, x.d, x.u)
		if err != x.want || err != api.OK && len(out) > 0 || err == api.OK && len(out) != len(x.d) {
			t.Errorf("Conjugate of %d cells by %d letters: %d, not %d", len(x.d), len(x.u), err, x.want)
		}
	}
}
