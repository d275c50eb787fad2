package gloss

import (
	"maps"
	"slices"
	"strings"
	"unicode/utf8"
)

const (
	maxWords  = 40 // of a lexicon
	maxRunes  = 10 // of a word
	lastBlank = 32 // the runes up to here stand in no word
)

// wrongWith tells what is wrong with a word (P3). The length is asked between
// the two questions of form because of several errors the first one counts.
func wrongWith(word string) Errno {
	if word == "" || !utf8.ValidString(word) {
		return ErrForm
	}
	if utf8.RuneCountInString(word) > maxRunes {
		return ErrLong
	}
	for _, r := range word {
		if r <= lastBlank {
			return ErrForm
		}
	}
	return OK
}

// wordSet is words without an order of their own: what is told of them in an
// order is sorted first.
type wordSet map[string]struct{}

func (s wordSet) has(word string) bool {
	_, there := s[word]
	return there
}

// put keeps the word's bytes anew: a word may be a piece of a long text of the
// caller's, which would else be kept with it.
func (s wordSet) put(word string) {
	s[strings.Clone(word)] = struct{}{}
}

// come tries a word that is to be added (P4).
func (s wordSet) come(word string) Errno {
	if e := wrongWith(word); e != OK {
		return e
	}
	if s.has(word) {
		return ErrTwice
	}
	if len(s) >= maxWords {
		return ErrMany
	}
	s.put(word)
	return OK
}

// leave tries a word that is to be taken away (P4).
func (s wordSet) leave(word string) Errno {
	if e := wrongWith(word); e != OK {
		return e
	}
	if !s.has(word) {
		return ErrNone
	}
	delete(s, word)
	return OK
}

// tryEach tries the words in their order, and tells the first error and which
// word it is of.
func tryEach(words []string, try func(word string) Errno) (Errno, int) {
	for at, word := range words {
		if e := try(word); e != OK {
			return e, at
		}
	}
	return OK, 0
}

// copied is the same words in new memory.
func (s wordSet) copied() wordSet {
	return s.beginning("")
}

// each hands out the words, one by one, in no order that may be told.
func (s wordSet) each(hand func(word string)) {
	for word := range s {
		hand(word)
	}
}

// beginning is the words that begin with the bytes of prefix, in new memory.
func (s wordSet) beginning(prefix string) wordSet {
	found := wordSet{}
	s.each(func(word string) {
		if strings.HasPrefix(word, prefix) {
			found.put(word)
		}
	})
	return found
}

// below counts the words that are lower than this one.
func (s wordSet) below(word string) int {
	n := 0
	s.each(func(other string) {
		if other < word {
			n++
		}
	})
	return n
}

// rising is the words sorted byte by byte, which is how Go compares strings.
func (s wordSet) rising() []string {
	return slices.Sorted(maps.Keys(s))
}
