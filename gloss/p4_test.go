package gloss_test

import (
	"slices"
	"testing"

	"gloss/gloss"
)

// change is what With and Without have in common.
type change struct {
	what  string
	there []string
	tried []string
	e     gloss.Errno
	at    int
	left  []string
}

// checkChange asks for the words that are left, or for the error and its place.
func checkChange(t *testing.T, c change, l *gloss.Lexicon, e gloss.Errno, at int) {
	t.Helper()
	if c.e != gloss.OK {
		wantRefused(t, c.what, l, e, at, c.e, c.at)
		return
	}
	if e != gloss.OK || at != 0 {
		t.Errorf("%s: %d, %d, want 0, 0", c.what, e, at)
	}
	wantWords(t, c.what, l, c.left...)
}

func TestP4With(t *testing.T) {
	full, over := manyWords(maxWords), manyWords(maxWords+1)
	cats := []string{"cat", "act"}
	for _, c := range []change{
		{"nothing to nothing", nil, nil, gloss.OK, 0, nil},
		{"nothing to some", cats, nil, gloss.OK, 0, cats},
		{"one word", cats, []string{"dog"}, gloss.OK, 0, []string{"act", "cat", "dog"}},
		{"words that begin one another", cats, []string{"cats", "ca", "c"}, gloss.OK, 0, []string{"act", "c", "ca", "cat", "cats"}},
		{"another case is another word", cats, []string{"Cat"}, gloss.OK, 0, []string{"Cat", "act", "cat"}},
		{"another form of the same letter", []string{"é"}, []string{"e\u0301"}, gloss.OK, 0, []string{"e\u0301", "é"}},
		{"a word of the lexicon", cats, []string{"act"}, gloss.ErrTwice, 0, nil},
		{"a word of the lexicon, later", cats, []string{"dog", "cow", "act"}, gloss.ErrTwice, 2, nil},
		{"a word of the list again", cats, []string{"dog", "cow", "dog"}, gloss.ErrTwice, 2, nil},
		{"the first of several errors, by the list", cats, []string{"dog", "cat", "", "abcdefghijk"}, gloss.ErrTwice, 1, nil},
		{"another first error", cats, []string{"dog", "", "cat"}, gloss.ErrForm, 1, nil},
		{"a long one first", cats, []string{"abcdefghijk", "", "cat"}, gloss.ErrLong, 0, nil},
		{"up to MaxWords", full[:maxWords-1], full[maxWords-1:], gloss.OK, 0, full},
		{"MaxWords at once", nil, full, gloss.OK, 0, full},
		{"one more than MaxWords at once", nil, over, gloss.ErrMany, maxWords, nil},
		{"one more than MaxWords", full, over[maxWords:], gloss.ErrMany, 0, nil},
		{"one more than MaxWords, in two parts", full[:30], over[30:], gloss.ErrMany, 10, nil},
		{"nothing to MaxWords", full, nil, gloss.OK, 0, full},
		{"a word again, of MaxWords", full, full[7:8], gloss.ErrTwice, 0, nil},
		{"a wrong word to MaxWords", full, []string{" "}, gloss.ErrForm, 0, nil},
		{"a wrong word behind one too many", full, []string{"a", ""}, gloss.ErrMany, 0, nil},
	} {
		c.what = "With, " + c.what
		l, e, at := build(t, c.there...).With(c.tried...)
		checkChange(t, c, l, e, at)
	}
}

func TestP4BuildIsWithOfNothing(t *testing.T) {
	full, over := manyWords(maxWords), manyWords(maxWords+1)
	for _, c := range []change{
		{"nothing", nil, nil, gloss.OK, 0, nil},
		{"an empty list", nil, []string{}, gloss.OK, 0, nil},
		{"words", nil, []string{"cat", "act", "cats", "dog"}, gloss.OK, 0, []string{"act", "cat", "cats", "dog"}},
		{"MaxWords", nil, full, gloss.OK, 0, full},
		{"one more", nil, over, gloss.ErrMany, maxWords, nil},
		{"one more, that is there", nil, append(slices.Clone(full), full[3]), gloss.ErrTwice, maxWords, nil},
		{"a word again", nil, []string{"a", "b", "a"}, gloss.ErrTwice, 2, nil},
		{"the empty word", nil, []string{""}, gloss.ErrForm, 0, nil},
		{"the empty word, later", nil, []string{"a", "", "a"}, gloss.ErrForm, 1, nil},
		{"a wrong word again", nil, []string{"a", " ", " "}, gloss.ErrForm, 1, nil},
		{"a long word, later", nil, []string{"a", "b", "abcdefghijk"}, gloss.ErrLong, 2, nil},
	} {
		l, e, at := gloss.Build(c.tried...)
		m, f, to := build(t).With(c.tried...)
		built, with := c, c
		built.what, with.what = "Build, "+c.what, "With of nothing, "+c.what
		checkChange(t, built, l, e, at)
		checkChange(t, with, m, f, to)
	}
}

func TestP4Without(t *testing.T) {
	full := manyWords(maxWords)
	cats := []string{"cat", "act", "cats", "dog"}
	for _, c := range []change{
		{"nothing of nothing", nil, nil, gloss.OK, 0, nil},
		{"nothing of some", cats, nil, gloss.OK, 0, cats},
		{"one word", cats, []string{"cat"}, gloss.OK, 0, []string{"act", "cats", "dog"}},
		{"several words", cats, []string{"dog", "act"}, gloss.OK, 0, []string{"cat", "cats"}},
		{"all words", cats, []string{"dog", "act", "cats", "cat"}, gloss.OK, 0, nil},
		{"all of MaxWords", full, full, gloss.OK, 0, nil},
		{"one of MaxWords", full, full[:1], gloss.OK, 0, full[1:]},
		{"a word of nothing", nil, []string{"a"}, gloss.ErrNone, 0, nil},
		{"a word that never was there", cats, []string{"cow"}, gloss.ErrNone, 0, nil},
		{"the beginning of a word", cats, []string{"ca"}, gloss.ErrNone, 0, nil},
		{"more than a word", cats, []string{"catss"}, gloss.ErrNone, 0, nil},
		{"a word that never was there, later", cats, []string{"cat", "act", "cow"}, gloss.ErrNone, 2, nil},
		{"a word that is not there any more", cats, []string{"cat", "act", "cat"}, gloss.ErrNone, 2, nil},
		{"one more than all", cats, append(slices.Clone(cats), "cat"), gloss.ErrNone, 4, nil},
		{"the empty word", cats, []string{""}, gloss.ErrForm, 0, nil},
		{"no UTF-8, later", cats, []string{"cat", "\xff"}, gloss.ErrForm, 1, nil},
		{"a blank, later", cats, []string{"cat", "dog", "a b"}, gloss.ErrForm, 2, nil},
		{"a long word, later", cats, []string{"cat", "abcdefghijk"}, gloss.ErrLong, 1, nil},
		{"the first of several errors, by the list", cats, []string{"cat", "cow", "", "abcdefghijk"}, gloss.ErrNone, 1, nil},
		{"another first error", cats, []string{"cat", "abcdefghijk", "cow"}, gloss.ErrLong, 1, nil},
	} {
		c.what = "Without, " + c.what
		l, e, at := build(t, c.there...).Without(c.tried...)
		checkChange(t, c, l, e, at)
	}
}

func TestP4WordsThatAreGoneMayComeAgain(t *testing.T) {
	full := manyWords(maxWords)
	l := build(t, full...)
	fewer, _, _ := l.Without(full[5])
	again, e, at := fewer.With(full[5])
	checkChange(t, change{what: "the same word again", left: full}, again, e, at)
	other, e, at := fewer.With("other")
	left := append(slices.Delete(slices.Clone(full), 5, 6), "other")
	checkChange(t, change{what: "another word instead", left: left}, other, e, at)
	refused, e, at := fewer.With("other", "more")
	wantRefused(t, "two words instead of one", refused, e, at, gloss.ErrMany, 1)
}
