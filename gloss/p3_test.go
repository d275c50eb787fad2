package gloss_test

import (
	"strings"
	"testing"

	"gloss/gloss"
)

func TestP3WhatIsWrongWithAWord(t *testing.T) {
	ten, eleven := strings.Repeat("a", maxRunes), strings.Repeat("a", maxRunes+1)
	for _, c := range []struct {
		what, word string
		e          gloss.Errno
	}{
		{"one letter", "a", gloss.OK},
		{"several letters", "cats", gloss.OK},
		{"the lowest rune", "!", gloss.OK},
		{"rune 127", "\x7f", gloss.OK},
		{"a control rune above 127", "\u0080", gloss.OK},
		{"a blank that is not the blank", "\u00a0", gloss.OK},
		{"a wide blank", "a\u3000b", gloss.OK},
		{"the rune that stands for what is not UTF-8", "\ufffd", gloss.OK},
		{"the rune after the surrogates", "\ue000", gloss.OK},
		{"the highest rune", "\U0010ffff", gloss.OK},
		{"MaxRunes runes of one byte", ten, gloss.OK},
		{"MaxRunes runes of two bytes", strings.Repeat("é", maxRunes), gloss.OK},
		{"MaxRunes runes of three bytes", strings.Repeat("日", maxRunes), gloss.OK},
		{"MaxRunes runes of four bytes", strings.Repeat("\U0001f600", maxRunes), gloss.OK},
		{"no rune", "", gloss.ErrForm},
		{"a byte that begins nothing", "\xff", gloss.ErrForm},
		{"a byte that goes on alone", "\x80", gloss.ErrForm},
		{"a rune cut short", "a\xe2\x82", gloss.ErrForm},
		{"a rune cut short in the midst", "\xe2\x82a", gloss.ErrForm},
		{"a rune in more bytes than it needs", "\xc1\xa1", gloss.ErrForm},
		{"rune 0 in two bytes", "\xc0\x80", gloss.ErrForm},
		{"a surrogate", "\xed\xa0\x80", gloss.ErrForm},
		{"above the highest rune", "\xf4\x90\x80\x80", gloss.ErrForm},
		{"one rune more", eleven, gloss.ErrLong},
		{"one rune more, of three bytes", strings.Repeat("日", maxRunes+1), gloss.ErrLong},
		{"very many runes", strings.Repeat("a", 1<<20), gloss.ErrLong},
		{"rune 0", "\x00", gloss.ErrForm},
		{"rune 31", "\x1f", gloss.ErrForm},
		{"rune 32", " ", gloss.ErrForm},
		{"a tab in the midst", "a\tb", gloss.ErrForm},
		{"a newline at the end", "ab\n", gloss.ErrForm},
		{"a blank at the beginning", " ab", gloss.ErrForm},
		{"a blank as the last of MaxRunes", ten[1:] + " ", gloss.ErrForm},
		{"too long, and with a blank", ten + " ", gloss.ErrLong},
		{"too long, all blanks", strings.Repeat(" ", maxRunes+1), gloss.ErrLong},
		{"too long, and not UTF-8", eleven + "\xff", gloss.ErrForm},
		{"a blank, and not UTF-8", " \xff", gloss.ErrForm},
	} {
		checkWord(t, c.what, c.word, c.e)
	}
}

// checkWord tries a word by every call that tries words, and asks for it.
func checkWord(t *testing.T, what, word string, want gloss.Errno) {
	t.Helper()
	base := build(t, "zz", "zy")
	built, e, at := gloss.Build("zz", "zy", word)
	more, f, to := base.With(word)
	if want == gloss.OK {
		wantWords(t, "Build, "+what, built, "zz", "zy", word)
		wantWords(t, "With, "+what, more, "zz", "zy", word)
		fewer, _, _ := more.Without(word)
		wantWords(t, "Without, "+what, fewer, "zz", "zy")
		return
	}
	wantRefused(t, "Build, "+what, built, e, at, want, 2)
	wantRefused(t, "With, "+what, more, f, to, want, 0)
	fewer, e, at := base.Without("zz", word)
	wantRefused(t, "Without, "+what, fewer, e, at, want, 1)
}
