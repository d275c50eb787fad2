package gloss_test

import (
	"slices"
	"testing"

	"gloss/gloss"
)

// orders hands out every order of the words.
func orders(words []string, ahead int, hand func([]string)) {
	if ahead == len(words) {
		hand(slices.Clone(words))
		return
	}
	for i := ahead; i < len(words); i++ {
		words[ahead], words[i] = words[i], words[ahead]
		orders(words, ahead+1, hand)
		words[ahead], words[i] = words[i], words[ahead]
	}
}

func TestP2TheOrderOfComingIsNotSeen(t *testing.T) {
	words := []string{"taps", "tap", "t", "é", "日本"}
	orders(slices.Clone(words), 0, func(given []string) {
		wantWords(t, "Build in another order", build(t, given...), words...)
		oneByOne := build(t)
		for _, word := range given {
			oneByOne, _, _ = oneByOne.With(word)
		}
		wantWords(t, "With, one by one", oneByOne, words...)
	})
}

func TestP2TheWayToTheWordsIsNotSeen(t *testing.T) {
	words := manyWords(maxWords)
	l := build(t, words...)
	for _, word := range words {
		gone, _, _ := l.Without(word)
		l, _, _ = gone.With(word)
	}
	wantWords(t, "each word gone and come again", l, words...)
}

func TestP2TheSameIsAnsweredAgain(t *testing.T) {
	words := manyWords(maxWords)
	for range 50 {
		wantWords(t, "built again", build(t, words...), words...)
		l, e, at := gloss.Build("b", "a", "b", "a")
		wantRefused(t, "refused again", l, e, at, gloss.ErrTwice, 2)
	}
}

func TestP2NoCallChangesALexicon(t *testing.T) {
	words := []string{"tops", "tap", "taps", "é", "日本"}
	l := build(t, words...)
	lists := [][]string{nil, {"b"}, {"b", "c"}, {"b", "tap"}, {"tap"}, {"tap", "taps"}, {"tap", "tap"}, {"tap", ""}, words, manyWords(maxWords)}
	for _, list := range lists {
		callAll(l, "tap", list, 1, 1)
		wantWords(t, "after calls with a list", l, words...)
	}
	for _, text := range oddTexts() {
		for _, n := range []int{-1, 0, 2, 5} {
			callAll(l, text, []string{text}, n, n)
		}
		wantWords(t, "after calls with a text", l, words...)
	}
}

func TestP2LexiconsDoNotShareTheirWords(t *testing.T) {
	first := build(t, "a", "b")
	second, _, _ := first.With("c")
	third, _, _ := second.Without("a")
	fourth, _, _ := second.With("d")
	empty, _, _ := third.Without("b", "c")
	wantWords(t, "first", first, "a", "b")
	wantWords(t, "second", second, "a", "b", "c")
	wantWords(t, "third", third, "b", "c")
	wantWords(t, "fourth", fourth, "a", "b", "c", "d")
	wantWords(t, "empty", empty)
	wantWords(t, "built later", build(t))
}
