package gloss_test

import (
	"slices"
	"strings"
	"testing"

	"gloss/gloss"
)

func TestP5TheExample(t *testing.T) {
	l := build(t, "cat", "act", "cats", "dog")
	if l.Words() != 4 {
		t.Errorf("Words() = %d, want 4", l.Words())
	}
	for rank, word := range []string{"act", "cat", "cats", "dog"} {
		if n, e := l.Rank(word); n != rank || e != gloss.OK {
			t.Errorf("Rank(%q) = %d, %d, want %d", word, n, e, rank)
		}
		if got, e := l.At(rank); got != word || e != gloss.OK {
			t.Errorf("At(%d) = %q, %d, want %q", rank, got, e, word)
		}
	}
}

func TestP5WordsRiseByteByByte(t *testing.T) {
	rising := []string{"!", "A", "B", "Z", "a", "aa", "ab", "b", "ba", "z", "~", "\x7f", "\u0080", "é", "éa", "\u07ff", "ࠀ", "日", "日本", "\ue000", "\ufffd", "\uffff", "\U00010000", "\U0010ffff"}
	given := slices.Clone(rising)
	slices.Reverse(given)
	l := build(t, given...)
	if got := l.Prefix(""); !slices.Equal(got, rising) {
		t.Errorf("Prefix(\"\") = %q, want %q", got, rising)
	}
	for i, word := range rising {
		n, e := l.Rank(word)
		got, f := l.At(i)
		if n != i || e != gloss.OK || got != word || f != gloss.OK {
			t.Errorf("Rank(%q) = %d, %d, At(%d) = %q, %d", word, n, e, i, got, f)
		}
	}
}

func TestP5RankOfWordsThatAreNotThere(t *testing.T) {
	l := build(t, "tap", "taps", "é", "日本")
	for _, word := range []string{
		"", "t", "ta", "tapss", "tap ", " tap", "TAP", "zz", "a", "\xc3", "\xa9", "日", "日本日", "日\xe6\x9c", "\xff",
		"\x00", "abcdefghijk", "e\u0301", "\ufffd", strings.Repeat("tap", 1000),
	} {
		if n, e := l.Rank(word); n != 0 || e != gloss.ErrNone {
			t.Errorf("Rank(%q) = %d, %d, want 0, ErrNone", word, n, e)
		}
	}
	if n, e := build(t).Rank("tap"); n != 0 || e != gloss.ErrNone {
		t.Errorf("Rank in a lexicon without words = %d, %d, want 0, ErrNone", n, e)
	}
}

func TestP5AtOutOfBounds(t *testing.T) {
	for _, words := range [][]string{nil, {"a"}, {"tap", "taps", "日本"}, manyWords(maxWords)} {
		l := build(t, words...)
		for _, rank := range oddNumbers() {
			if rank >= 0 && rank < len(words) {
				continue
			}
			if got, e := l.At(rank); got != "" || e != gloss.ErrNone {
				t.Errorf("At(%d) of %d words = %q, %d, want ErrNone", rank, len(words), got, e)
			}
		}
	}
}

func TestP5Prefix(t *testing.T) {
	l := build(t, "tops", "tap", "é", "taps", "top", "a", "日本", "日", "t")
	for _, c := range []struct {
		prefix string
		want   []string
	}{
		{"", []string{"a", "t", "tap", "taps", "top", "tops", "é", "日", "日本"}},
		{"t", []string{"t", "tap", "taps", "top", "tops"}},
		{"ta", []string{"tap", "taps"}},
		{"tap", []string{"tap", "taps"}},
		{"taps", []string{"taps"}},
		{"tapss", nil},
		{"op", nil},
		{"s", nil},
		{"T", nil},
		{"é", []string{"é"}},
		{"e", nil},
		{"\xc3", []string{"é"}},
		{"\xa9", nil},
		{"\xe6", []string{"日", "日本"}},
		{"\xe6\x97", []string{"日", "日本"}},
		{"日\xe6\x9c", []string{"日本"}},
		{"日\xe6\x9d", nil},
		{"t\xff", nil},
		{"\ufffd", nil},
		{" ", nil},
		{"\x00", nil},
		{strings.Repeat("t", 1<<20), nil},
	} {
		if got := l.Prefix(c.prefix); !slices.Equal(got, c.want) {
			t.Errorf("Prefix(%q) = %q, want %q", c.prefix, got, c.want)
		}
		if got := build(t).Prefix(c.prefix); len(got) != 0 {
			t.Errorf("Prefix(%q) of no words = %q", c.prefix, got)
		}
	}
}

// TestP5EveryShortWord holds the answers against a plain list, for every
// lexicon of the words of one or two of two runes.
func TestP5EveryShortWord(t *testing.T) {
	all := []string{"a", "aa", "aé", "é", "éa", "éé"}
	asked := append([]string{"", "\xc3", "a\xc3", "é\xc3", "b", "aaa"}, all...)
	for chosen := range 1 << len(all) {
		var words []string
		for i, word := range all {
			if chosen>>i&1 == 1 {
				words = append(words, word)
			}
		}
		l := build(t, words...)
		wantWords(t, "a lexicon of short words", l, words...)
		for _, text := range asked {
			checkAsked(t, l, words, text)
		}
	}
}

// checkAsked holds Prefix and Rank against the words, which are rising.
func checkAsked(t *testing.T, l *gloss.Lexicon, words []string, text string) {
	t.Helper()
	var begun []string
	for _, word := range words {
		if strings.HasPrefix(word, text) {
			begun = append(begun, word)
		}
	}
	if got := l.Prefix(text); !slices.Equal(got, begun) {
		t.Errorf("Prefix(%q) of %q = %q, want %q", text, words, got, begun)
	}
	rank, e := slices.Index(words, text), gloss.OK
	if rank < 0 {
		rank, e = 0, gloss.ErrNone
	}
	if n, f := l.Rank(text); n != rank || f != e {
		t.Errorf("Rank(%q) of %q = %d, %d, want %d, %d", text, words, n, f, rank, e)
	}
}
