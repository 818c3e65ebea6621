package pres

import (
	"iter"
	"strings"

	"cayley/api"
	"cayley/word"
)

// Parse returns the presentation that a text denotes.
func Parse(text string) (p api.Presentation, err api.Errno) {
	if len(text) > api.MaxPresText {
		return api.Presentation{}, api.ErrLimit
	}
	defer func() {
		if recover() != nil {
			p, err = api.Presentation{}, api.ErrForm
		}
	}()
	names, relations := open(text)
	r := reader{names: readNames(names)}
	r.readRelations(relations)
	if r.over {
		return api.Presentation{}, api.ErrLimit
	}
	return api.Presentation{Gens: len(r.names), Rels: r.relators}, api.OK
}

// mustHold leaves a text as one of no presentation unless a condition holds.
func mustHold(condition bool) {
	if !condition {
		panic(api.ErrForm)
	}
}

// trim takes the blanks off at both ends.
func trim(text string) string {
	return strings.Trim(text, " ")
}

// open returns the parts of a text that contain the names and the relations.
func open(text string) (names, relations string) {
	inner, isOpened := strings.CutPrefix(trim(text), "<")
	inner, isClosed := strings.CutSuffix(inner, ">")
	names, relations, isDivided := strings.Cut(inner, "|")
	mustHold(isOpened && isClosed && isDivided)
	return names, relations
}

// separated yields the parts of a text that a separator is between, but for separators within [ and ], since a comma there belongs to the commutator.
func separated(text string, separator byte) iter.Seq[string] {
	return func(yield func(part string) bool) {
		start, depth := 0, 0
		for i := range len(text) {
			switch b := text[i]; {
			case b == '[':
				depth++
			case b == ']':
				depth--
			case b == separator && depth == 0:
				if !yield(text[start:i]) {
					return
				}
				start = i + 1
			}
		}
		yield(text[start:])
	}
}

// readNames returns the names, one behind the other.
func readNames(text string) string {
	names := ""
	for part := range separated(text, ',') {
		name := trim(part)
		mustHold(len(name) == 1 && isSmall(name[0]) && !strings.Contains(names, name))
		names += name
		mustHold(len(names) <= api.MaxGens)
	}
	return names
}

func isSmall(b byte) bool {
	return 'a' <= b && b <= 'z'
}

// reader collects the relators of a text. An error of form, wherever it stands, counts ahead of a limit, so that a limit is only noted until the end of the text.
type reader struct {
	names    string
	relators []string
	over     bool // a limit is exceeded
}

func (r *reader) readRelations(text string) {
	if trim(text) == "" {
		return
	}
	count := 0
	for part := range separated(text, ',') {
		count++
		r.add(r.relation(part))
	}
	r.note(count > api.MaxRels)
}

// note notes that a limit is exceeded, if it is.
func (r *reader) note(over bool) {
	r.over = r.over || over
}

// add puts a relator behind the others.
func (r *reader) add(relator string) {
	r.note(isTooLong(relator))
	if relator != "" && !r.over {
		r.relators = append(r.relators, relator)
	}
}

// relation returns the relator of a relation.
func (r *reader) relation(text string) string {
	var sides []string
	for side := range separated(text, '=') {
		mustHold(len(sides) < 2)
		sides = append(sides, r.expression(side))
	}
	if len(sides) == 1 {
		return sides[0]
	}
	return quotient(sides[0], sides[1])
}

// expression returns the value of an expression, or the empty word where a limit is exceeded.
func (r *reader) expression(text string) string {
	value, err := word.Parse(len(r.names), r.rename(text))
	mustHold(err == api.OK || err == api.ErrLimit)
	r.note(err == api.ErrLimit)
	return value
}

// rename writes an expression with the letters of the generators instead of their names.
func (r *reader) rename(text string) string {
	out := []byte(text)
	for i, b := range out {
		small := b | caseBit
		if !isSmall(small) {
			continue
		}
		generator := strings.IndexByte(r.names, small)
		mustHold(generator >= 0)
		out[i] = letter(generator)
		if b != small {
			out[i] ^= caseBit
		}
	}
	return string(out)
}

// quotient returns the free reduction of u v^-1 for freely reduced words. The letters that both end with are taken off first: ahead of its reduction the product may be longer than words are.
func quotient(u, v string) string {
	for u != "" && v != "" && u[len(u)-1] == v[len(v)-1] {
		u, v = u[:len(u)-1], v[:len(v)-1]
	}
	return u + word.Inverse(v)
}
