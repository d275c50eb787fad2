package gloss_test

import (
	"math"
	"slices"
	"strings"
	"testing"

	"gloss/gloss"
)

// The document's limits, written anew: a wrong number in the program is to be
// found, not shared.
const (
	maxWords = 40
	maxRunes = 10
	maxText  = 20000
)

// build makes a lexicon of words with which nothing is wrong.
func build(t *testing.T, words ...string) *gloss.Lexicon {
	t.Helper()
	l, e, at := gloss.Build(words...)
	if l == nil || e != gloss.OK || at != 0 {
		t.Fatalf("Build(%q) = %v, %d, %d", words, l, e, at)
	}
	return l
}

// manyWords makes n words, rising.
func manyWords(n int) []string {
	var words []string
	for i := range n {
		words = append(words, "w"+string(rune('a'+i/26))+string(rune('a'+i%26)))
	}
	return words
}

// wantWords asks all that P5 tells of a lexicon that should have these words.
func wantWords(t *testing.T, what string, l *gloss.Lexicon, words ...string) {
	t.Helper()
	if l == nil {
		t.Errorf("%s: no lexicon, want one of %q", what, words)
		return
	}
	rising := slices.Sorted(slices.Values(words))
	if got := l.Prefix(""); !slices.Equal(got, rising) {
		t.Errorf("%s: Prefix(\"\") = %q, want %q", what, got, rising)
	}
	if got := l.Words(); got != len(rising) {
		t.Errorf("%s: Words() = %d, want %d", what, got, len(rising))
	}
	for i, word := range rising {
		if n, e := l.Rank(word); n != i || e != gloss.OK {
			t.Errorf("%s: Rank(%q) = %d, %d, want %d, 0", what, word, n, e, i)
		}
		if got, e := l.At(i); got != word || e != gloss.OK {
			t.Errorf("%s: At(%d) = %q, %d, want %q, 0", what, i, got, e, word)
		}
	}
	for _, rank := range []int{math.MinInt, -1, len(rising), math.MaxInt} {
		if got, e := l.At(rank); got != "" || e != gloss.ErrNone {
			t.Errorf("%s: At(%d) = %q, %d, want ErrNone", what, rank, got, e)
		}
	}
}

// wantRefused asks that nothing but the error and its place was answered.
func wantRefused(t *testing.T, what string, l *gloss.Lexicon, e gloss.Errno, at int, wantE gloss.Errno, wantAt int) {
	t.Helper()
	if l != nil || e != wantE || at != wantAt {
		t.Errorf("%s = %v, %d, %d, want nil, %d, %d", what, l, e, at, wantE, wantAt)
	}
}

// oddTexts are texts at which a careless call may stumble.
func oddTexts() []string {
	return []string{
		"", " ", "\x00", "\t", "\n", "\x1f", "!", "a", "ta", "tap", "taps", "tapss", "\x7f", "é", "日本",
		"\x80", "\xc3", "\xe6\x97", "\xff", "\xfe\xff", "\xed\xa0\x80", "\xc0\x80", "\xf4\x90\x80\x80",
		"\ufffd", "\U0010ffff", "a b", "a\xff", strings.Repeat("a", maxRunes), strings.Repeat("a", maxRunes+1),
		strings.Repeat("日", maxRunes+1), strings.Repeat("\xff", maxRunes+1), strings.Repeat("x", maxText),
		strings.Repeat("x", maxText+1), strings.Repeat("\n", 1<<20), "gloss 1\n!\n", "gloss 5\n. t1\n",
	}
}

// oddNumbers are numbers at and past the edges.
func oddNumbers() []int {
	return []int{math.MinInt, math.MinInt32, -1, 0, 1, 3, 4, maxWords - 1, maxWords, maxWords + 1, math.MaxInt32, math.MaxInt}
}
