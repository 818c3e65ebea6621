package pres_test

import (
	"math/rand"
	"strings"
	"testing"

	"cayley/api"
	"cayley/pres"
	"cayley/word"
)

// expect tests what Parse returns.
func expect(t *testing.T, text string, want api.Presentation, wantErr api.Errno) {
	t.Helper()
	if p, err := pres.Parse(text); err != wantErr || !same(p, want) {
		t.Errorf("Parse of %.60q = %d, %.60q, %d, not %d, %.60q, %d", text, p.Gens, p.Rels, err, want.Gens, want.Rels, wantErr)
	}
}

// refuse tests that Parse returns an error.
func refuse(t *testing.T, text string, err api.Errno) {
	t.Helper()
	expect(t, text, api.Presentation{}, err)
}

// P3.1
func TestParse(t *testing.T) {
	for _, x := range []struct {
		text string
		p    api.Presentation
	}{
		{"<x, y | x y = y x>", of(2, "abAB")}, {"<a | a^5, a A>", of(1, "aaaaa")}, {"<a | >", of(1)}, {"<a|>", of(1)}, {"<z|z>", of(1, "a")},
		{"<a, b, c, d, e, f, g, h | h H, H>", of(8, "H")}, {"<s,t,u,v,w,x,y,z|zZzYX>", of(8, "hGF")},
		{"<b, a | b, a, B A>", of(2, "a", "b", "AB")}, {"<i, h | i h I H>", of(2, "abAB")},
		{"<x, y | [x, y], [x^2, y] = 1>", of(2, "abAB", "aabAAB")}, {"<x, y | [[x, y], y]>", of(2, reduce("abABbbaBAB"))}, {"<x,y|([x,y])^2,y>", of(2, "abABabAB", "b")},
		{"<a | a^3 = a, a = a^3, a = a>", of(1, "aa", "AA")}, {"<a | 1, 1 = 1, a^0, (a A)^7>", of(1)}, {"<a, b | a b = b>", of(2, "a")}, {"<a, b | b a = b>", of(2, "baB")}, {"<a, b | 1 = a b>", of(2, "BA")},
		{"<a | a, a, A>", of(1, "a", "a", "A")}, {"<a | a^200, a^-200>", of(1, a(200), strings.ToUpper(a(200)))}, {"<a | a^007>", of(1, a(7))},
	} {
		expect(t, x.text, x.p, api.OK)
	}
}

// P3.1: blanks may stand between all tokens, and no other white space.
func TestParseBlanks(t *testing.T) {
	tokens := []string{"<", "x", ",", "y", "|", "[", "x", ",", "Y", "]", "^", "2", "=", "(", "x", "y", ")", "^", "-1", ",", "1", ">"}
	want := of(2, reduce("aBAbaBAb"+"ab"))
	expect(t, strings.Join(tokens, ""), want, api.OK)
	expect(t, "  "+strings.Join(tokens, "  ")+"  ", want, api.OK)
	for i := range tokens {
		expect(t, strings.Join(tokens[:i], "")+" "+strings.Join(tokens[i:], ""), want, api.OK)
		for _, other := range []string{"\n", "\t", "\x00", "\u00a0", "?"} {
			refuse(t, strings.Join(tokens[:i], "")+other+strings.Join(tokens[i:], ""), api.ErrForm)
		}
	}
	refuse(t, "<a | a>\n", api.ErrForm)
}

// P3.1
func TestParseForm(t *testing.T) {
	for _, text := range []string{
		"", " ", "<", ">", "<>", "|", "<|>", "< | >", "<| a>", "a | a", "<a | a", "a | a>", ">a | a<", "<a, a>", "<a>", "<a a>", "<<a | a>>", "<a | a> a", "a <a | a>", "<a | a>>", "<<a | a>",
		"<a, a | >", "<a, b, a | >", "<a b | >", "<ab | >", "<a, | >", "<, a | >", "<a,, b | >", "<A | >", "<a, B | >", "<1 | >", "<é | >", "<` | >", "<{ | >", "<[a,b] | >", "<a,b,c,d,e,f,g,h,i | >", "<a = b | >",
		"<a | b>", "<a | B>", "<x | a>", "<x, y | a b>", "<a | a | a>", "<a | a ||>", "<a | ,>", "<a | a,>", "<a | ,a>", "<a | a,,a>", "<a | =>", "<a | a =>", "<a | = a>", "<a | a = a = a>", "<a | a == a>", "<a | a = , a>",
		"<a | (a>", "<a | a)>", "<a | (a, a)>", "<a | (a = a)>", "<a | [a]>", "<a | [a, a>", "<a | [a, a], [a>", "<a | a], [a>", "<a | [a = a, a]>", "<a | [a, a, a]>", "<a | [a,]>", "<a | a^>", "<a | a^^2>", "<a | a^2^2>", "<a | a^1234567>", "<a | 2>", "<a | a\x80>", "<a | a^a>", "<a | a<>", "<a | a;a>", "<a | a*a>", "<a | ()>",
	} {
		refuse(t, text, api.ErrForm)
	}
	for i := range 256 {
		name := string([]byte{byte(i)})
		if 'a' <= i && i <= 'z' {
			expect(t, "<"+name+" | "+name+strings.ToUpper(name)+name+">", of(1, "a"), api.OK)
		} else {
			refuse(t, "<"+name+" | >", api.ErrForm)
		}
	}
}

// P3.1: limits, and that an error of form, wherever it stands, counts ahead of them, unless the text is too long.
func TestParseLimits(t *testing.T) {
	const n = api.MaxPresText
	expect(t, "<a | a>"+strings.Repeat(" ", n-7), of(1, "a"), api.OK)
	refuse(t, "<a | a>"+strings.Repeat(" ", n-6), api.ErrLimit)
	refuse(t, strings.Repeat("?", n), api.ErrForm)
	refuse(t, strings.Repeat("?", n+1), api.ErrLimit)
	relations := func(count int, relation, last string) string {
		return "<a | " + strings.Repeat(relation+",", count-1) + last + ">"
	}
	p, err := pres.Parse(relations(60, "a", "a"))
	if err != api.OK || len(p.Rels) != 60 {
		t.Errorf("60 relations: %d, %d", len(p.Rels), err)
	}
	expect(t, relations(60, "1", "a"), of(1, "a"), api.OK)
	for _, x := range []struct {
		text string
		err  api.Errno
	}{
		{relations(61, "a", "a"), api.ErrLimit}, {relations(61, "1", "1"), api.ErrLimit}, {relations(61, "a=a", "a"), api.ErrLimit}, {relations(61, "a", "b"), api.ErrForm}, {relations(40000, "a", "a"), api.ErrLimit}, {relations(40000, "a", ""), api.ErrForm},
		{"<a | a^201>", api.ErrLimit}, {"<a | a^-201>", api.ErrLimit}, {"<a | a^201, b>", api.ErrForm}, {"<a | a^201, a>", api.ErrLimit}, {"<a | a, a^201>", api.ErrLimit}, {"<a | a^201 = b>", api.ErrForm}, {"<a | a^201, a", api.ErrForm}, {"<a | a^201 | a>", api.ErrForm},
		{"<a | a^150 = a^-51>", api.ErrLimit}, {"<a | a^100001>", api.ErrLimit}, {"<a | a = a^100001>", api.ErrLimit}, {"<a | a^100001 = a^100001>", api.ErrLimit}, {"<a | a^100001, b>", api.ErrForm}, {"<a | b, a^100001>", api.ErrForm}, {"<a | a^999999, a^1234567>", api.ErrForm}, {"<a | a^100001 = b>", api.ErrForm}, {"<a | (a^100001)^0>", api.ErrLimit},
		{"<a | " + strings.Repeat("(", 22) + "a" + strings.Repeat(")", 22) + ">", api.ErrLimit}, {"<a | " + strings.Repeat("(", 22) + "a" + strings.Repeat(")", 21) + ">", api.ErrForm},
	} {
		refuse(t, x.text, x.err)
	}
	expect(t, "<a | "+strings.Repeat("(", 21)+"a"+strings.Repeat(")", 21)+">", of(1, "a"), api.OK)
	expect(t, "<a | a^150 = a^-50>", of(1, a(200)), api.OK)
}

// P3.1: the sides of a relation may be much longer than its relator, and together longer than words are.
func TestParseLongSides(t *testing.T) {
	for _, x := range []struct {
		text string
		p    api.Presentation
	}{
		{"<a | a^1000 = a^999>", of(1, "a")}, {"<a | a^100000 = a^99999>", of(1, "a")}, {"<a | a^99999 = a^100000>", of(1, "A")}, {"<a | a^100000 = a^100000>", of(1)}, {"<a | a^100000 = a^99800, a>", of(1, a(200), "a")},
		{"<a, b | b^-100 a^60000 = b^100 a^60000>", of(2, strings.Repeat("B", 200))}, {"<a, b | a b^99999 = B b^99999>", of(2, "ab")}, {"<a | (a^100000)^1 = (a^-50000)^-2>", of(1)},
	} {
		expect(t, x.text, x.p, api.OK)
	}
	refuse(t, "<a, b | a^100000 = b^100000>", api.ErrLimit)
	refuse(t, "<a | a^100000 = a^99799>", api.ErrLimit)
	refuse(t, "<a, b | b^-101 a^60000 = b^100 a^60000>", api.ErrLimit)
}

// P3.1: texts that ask for many long values.
func TestParseMuch(t *testing.T) {
	refuse(t, "<a | "+strings.Repeat("(a^99999)^0,", 2000)+"a>", api.ErrLimit)
	refuse(t, "<a | "+strings.Repeat("a^99999=", 2000)+"a>", api.ErrForm)
	refuse(t, "<a | "+strings.Repeat("a=", 40000)+"a>", api.ErrForm)
}

// P3.7: presentations as they are read back, also the ones with the longest texts.
func TestReadBack(t *testing.T) {
	r := rand.New(rand.NewSource(1))
	var list []api.Presentation
	for i := range 500 {
		list = append(list, randomPresentation(r, 1+i%8))
	}
	longest := of(8)
	for range 60 {
		longest.Rels = append(longest.Rels, strings.Repeat("ahAH", 50))
	}
	for _, p := range append(list, longest, of(1, a(200)), of(8)) {
		text, err := pres.Text(p)
		if err != api.OK {
			t.Fatal(p, err)
		}
		expect(t, text, p, api.OK)
	}
}

// P3.1: relations as their sides are written and named in any way, against layer 1.
func TestParseRandomRelations(t *testing.T) {
	r := rand.New(rand.NewSource(2))
	rename := strings.NewReplacer("a", "p", "A", "P", "b", "a", "B", "A", "c", "x", "C", "X")
	for range 500 {
		want := of(3)
		var relations []string
		for range 1 + r.Intn(4) {
			u, v := randomWord(r, 3, 1+r.Intn(5)), randomWord(r, 3, 1+r.Intn(5))
			relation, relator := word.Text(u), reduce(u)
			if r.Intn(2) == 0 {
				relation, relator = relation+" = ["+word.Text(v)+", a]", reduce(u+inverse(v+"a"+inverse(v)+"A"))
			}
			relations = append(relations, rename.Replace(relation))
			if relator != "" {
				want.Rels = append(want.Rels, relator)
			}
		}
		expect(t, "<p, a, x | "+strings.Join(relations, " , ")+">", want, api.OK)
	}
}

// P3.1: whatever bytes a text has, Parse returns, with a valid presentation only if there is no error.
func TestParseRandomTexts(t *testing.T) {
	r := rand.New(rand.NewSource(3))
	for range 30000 {
		text := make([]byte, r.Intn(16))
		for i := range text {
			text[i] = "abAB11^^-(()),,,[[]]==|<> 02é"[r.Intn(30)]
		}
		for _, s := range []string{string(text), "<a,b|" + string(text) + ">"} {
			p, err := pres.Parse(s)
			if err == api.OK && pres.Check(p) != api.OK || err != api.OK && !same(p, api.Presentation{}) || err != api.OK && err != api.ErrForm && err != api.ErrLimit {
				t.Errorf("Parse of %q = %v, %d", s, p, err)
			}
		}
	}
}
