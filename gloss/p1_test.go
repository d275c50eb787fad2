package gloss_test

import (
	"slices"
	"strings"
	"testing"
	"unsafe"

	"gloss/gloss"
)

// callAll makes every call of the document with these arguments.
func callAll(l *gloss.Lexicon, text string, list []string, m, n int) {
	gloss.Build(list...)
	gloss.Decode(text)
	l.With(list...)
	l.Without(list...)
	l.Words()
	l.Rank(text)
	l.At(m)
	l.Prefix(text)
	l.Near(text, m, n)
	l.States()
	l.Encode()
}

func TestP1NoCallPanics(t *testing.T) {
	lexicons := []*gloss.Lexicon{build(t), build(t, "tap", "taps", "é", "日本"), build(t, manyWords(maxWords)...)}
	lists := [][]string{nil, {}, {""}, oddTexts(), manyWords(maxWords), manyWords(maxWords + 1), slices.Repeat([]string{"a"}, 100000)}
	for _, text := range oddTexts() {
		lists = append(lists, []string{text}, []string{"b", text}, []string{text, text})
	}
	for _, l := range lexicons {
		for _, list := range lists {
			callAll(l, "", list, 0, 0)
		}
		for _, text := range oddTexts() {
			for _, n := range oddNumbers() {
				callAll(l, text, nil, n, -n)
			}
		}
	}
}

func TestP1DecodeRefusesLongTexts(t *testing.T) {
	for _, c := range []struct {
		what, text string
		long       bool
	}{
		{"no bytes", "", false},
		{"MaxText bytes", strings.Repeat("x", maxText), false},
		{"one byte more", strings.Repeat("x", maxText+1), true},
		{"one byte more, bytes and not runes being counted", strings.Repeat("é", maxText/2) + "x", true},
		{"MaxText bytes in fewer runes", strings.Repeat("é", maxText/2), false},
		{"far more, and not UTF-8: the length is named first", strings.Repeat("\xff", 1<<22), true},
	} {
		l, e := gloss.Decode(c.text)
		if l != nil || e == gloss.OK || (e == gloss.ErrLong) != c.long {
			t.Errorf("Decode of %s = %v, %d, too long: %v", c.what, l, e, c.long)
		}
	}
}

func TestP1ListsAreNotChanged(t *testing.T) {
	l := build(t, "tops", "tap", "a")
	for _, list := range [][]string{{"z", "y", "x"}, {"tops", "tap", "a"}, {"b", "", "c"}, {"b", "b"}, oddTexts()} {
		given := slices.Clone(list)
		gloss.Build(given...)
		l.With(given...)
		l.Without(given...)
		if !slices.Equal(given, list) {
			t.Errorf("the list %q was changed to %q", list, given)
		}
	}
}

func TestP1ListsBehindTheGivenPartAreNotChanged(t *testing.T) {
	whole := []string{"c", "b", "a", "kept", "kept"}
	gloss.Build(whole[:3]...)
	build(t, "d").With(whole[:3]...)
	build(t, "a", "b", "c").Without(whole[:3]...)
	if want := []string{"c", "b", "a", "kept", "kept"}; !slices.Equal(whole, want) {
		t.Errorf("the list is now %q, want %q", whole, want)
	}
}

func TestP1ListsAreNotKept(t *testing.T) {
	list := []string{"tops", "tap", "a"}
	l := build(t, list...)
	clear(list)
	wantWords(t, "Build, its list cleared", l, "tops", "tap", "a")

	list = []string{"b", "taps"}
	more, _, _ := l.With(list...)
	list[0], list[1] = "x", "y"
	wantWords(t, "With, its list overwritten", more, "tops", "tap", "a", "b", "taps")

	list = []string{"b", "tops"}
	fewer, _, _ := more.Without(list...)
	list[0], list[1] = "a", "tap"
	wantWords(t, "Without, its list overwritten", fewer, "tap", "a", "taps")
}

// shareBytes tells whether a text begins within the bytes of another one.
func shareBytes(text, whole string) bool {
	p := uintptr(unsafe.Pointer(unsafe.StringData(text)))
	first := uintptr(unsafe.Pointer(unsafe.StringData(whole)))
	return p >= first && p < first+uintptr(len(whole))
}

func TestP1TextsAreNotKept(t *testing.T) {
	whole := strings.Repeat("wordmore", 1000)
	l := build(t, whole[:4])
	l, _, _ = l.With(whole[4:8])
	kept, _ := l.At(1)
	if kept != "word" || shareBytes(kept, whole) {
		t.Errorf("Build keeps the bytes that it was given for %q", kept)
	}
	kept, _ = l.At(0)
	if kept != "more" || shareBytes(kept, whole) {
		t.Errorf("With keeps the bytes that it was given for %q", kept)
	}
}

func TestP1AnswersAreNewMemory(t *testing.T) {
	l := build(t, "tops", "tap", "a")
	for _, prefix := range []string{"", "t", "tap"} {
		first, second := l.Prefix(prefix), l.Prefix(prefix)
		want := slices.Clone(second)
		for i := range first {
			first[i] = "overwritten"
		}
		_ = append(first[:0:cap(first)], "appended")
		if !slices.Equal(second, want) {
			t.Errorf("two answers of Prefix(%q) share memory: %q", prefix, second)
		}
		wantWords(t, "an answer of Prefix overwritten", l, "tops", "tap", "a")
	}
	first, _ := l.At(1)
	second, _ := l.At(1)
	if shareBytes(first, second) || shareBytes(first, l.Prefix("tap")[0]) {
		t.Errorf("two answers share the bytes of %q", first)
	}
}

func TestP1AnsweredLexiconsAreNew(t *testing.T) {
	l := build(t, "tap", "a")
	more, _, _ := l.With()
	fewer, _, _ := l.Without()
	if more == l || fewer == l || more == fewer {
		t.Errorf("With() or Without() answers the lexicon that was asked")
	}
	wantWords(t, "With()", more, "tap", "a")
	wantWords(t, "Without()", fewer, "tap", "a")
}

func TestP1TheErrorNamedFirstIsAnswered(t *testing.T) {
	full := build(t, manyWords(maxWords)...)
	long := strings.Repeat("a", maxRunes+1)
	for _, c := range []struct {
		what, word string
		with       gloss.Errno
		without    gloss.Errno
	}{
		{"not UTF-8, and too long", long + "\xff", gloss.ErrForm, gloss.ErrForm},
		{"too long, and with a blank", long + " ", gloss.ErrLong, gloss.ErrLong},
		{"no word, and many are there", "", gloss.ErrForm, gloss.ErrForm},
		{"a blank, and many are there", "a b", gloss.ErrForm, gloss.ErrForm},
		{"too long, and many are there", long, gloss.ErrLong, gloss.ErrLong},
		{"there, and many are there", "waa", gloss.ErrTwice, gloss.OK},
		{"not there, and many are there", "a", gloss.ErrMany, gloss.ErrNone},
	} {
		l, e, at := full.With(c.word)
		wantRefused(t, "With, "+c.what, l, e, at, c.with, 0)
		if c.without != gloss.OK {
			l, e, at = full.Without(c.word)
			wantRefused(t, "Without, "+c.what, l, e, at, c.without, 0)
		}
	}
}
