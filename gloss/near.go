package gloss

import (
	"cmp"
	"slices"
	"strings"
)

// maxNear is how far may be asked for.
const maxNear = 3

// within finds the words that are at most so far from this one, each with how
// far it is. They stand in new memory: what is found is told.
func (s wordSet) within(word string, far int) map[string]int {
	found := map[string]int{}
	runes := []rune(word)
	s.each(func(other string) {
		if n := howFar(runes, other); n <= far {
			found[strings.Clone(other)] = n
		}
	})
	return found
}

// distances holds how far the first runes of a word, none of them up to all of
// them, are from one beginning of another word. Both are words, so that no
// more than maxRunes are asked for.
type distances [maxRunes + 1]int

// howFar tells how far two words are (P6). Of the beginnings of other the last
// two suffice, because P6 looks back by two runes at most.
func howFar(word []rune, other string) int {
	var before, here distances
	for n := range here {
		here[n] = n
	}
	var last rune // 0 stands in no word: the first rune has none to exchange with
	for _, r := range other {
		next := distances{here[0] + 1}
		for i, own := range word {
			next[i+1] = min(next[i]+1, here[i+1]+1, here[i]+change(own, r))
			if i > 0 && own == last && word[i-1] == r {
				next[i+1] = min(next[i+1], before[i-1]+1)
			}
		}
		before, here, last = here, next, r
	}
	return here[len(word)]
}

// change tells how far one rune is from another one.
func change(one, other rune) int {
	if one == other {
		return 0
	}
	return 1
}

// nearest sorts what was found, and tells the first ones, at most so many. The
// list is made anew so that it doesn't hold on to the words that are left out.
func nearest(found map[string]int, most int) []Match {
	var all []Match
	for word, far := range found {
		all = append(all, Match{Word: word, Far: far})
	}
	slices.SortFunc(all, nearerOrLower)
	return append([]Match(nil), all[:min(most, len(all))]...)
}

// nearerOrLower tells which match comes first (P6).
func nearerOrLower(one, other Match) int {
	return cmp.Or(cmp.Compare(one.Far, other.Far), strings.Compare(one.Word, other.Word))
}
