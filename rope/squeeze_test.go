package rope

import (
	"math/rand"
	"testing"

	"cayley/api"
)

// sizes returns how many digests stand in the two words, and how many letters they are.
func (s *squeezer) sizes() (digests, letters int) {
	uses := s.uses()
	for i, rule := range s.rules {
		for _, part := range rule {
			if !isRule(part) {
				digests += uses[i] * part.times
				letters += uses[i] * s.length(part)
			}
		}
	}
	return digests, letters
}

// P2.3: that the comparison is exact does not rest on the choice of the pairs, but that it ends does: each round joins at least a quarter of all neighbours, and no letter is lost.
func TestRoundsShorten(t *testing.T) {
	r := rand.New(rand.NewSource(31))
	for range 60 {
		s := &squeezer{book: newBook()}
		for i := range s.tops {
			rope := []api.RopeNode{{Word: "a"}, {Word: "b"}, {Word: "abcAcB"}}
			for n := 3; n < 50; n++ {
				rope = append(rope, api.RopeNode{Left: n - 1 - r.Intn(3), Right: n - 1 - r.Intn(3)})
			}
			rope = append(rope, api.RopeNode{Left: 49, Times: 1 + r.Intn(1000)})
			if Check(rope) != api.OK {
				t.Fatal(rope)
			}
			s.tops[i] = s.write(rope)
		}
		_, letters := s.sizes()
		for s.joinRuns(); len(s.rules[s.tops[0]])+len(s.rules[s.tops[1]]) > 2; s.joinRuns() {
			ahead, _ := s.sizes()
			s.joinPairs()
			digests, left := s.sizes()
			if 4*(ahead-digests) < ahead-2 || left != letters {
				t.Fatalf("%d digests of %d letters become %d of %d", ahead, letters, digests, left)
			}
		}
	}
}
