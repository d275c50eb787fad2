package gloss_test

import (
	"fmt"
	"slices"
	"strings"
	"testing"

	"gloss/gloss"
)

// mostStates is how many states a graph can have: all words as long as can be,
// each in states of its own, but for the first one and for the last one.
const mostStates = 1 + maxWords*(maxRunes-1) + 1

// alone makes n words as long as can be, rising, of which no two begin or end
// alike.
func alone(n int) []string {
	var words []string
	for i := range n {
		words = append(words, strings.Repeat(string(rune('A'+i)), maxRunes))
	}
	return words
}

// product makes the words that begin with a rune of first and go on with one of
// second.
func product(first, second string) []string {
	var words []string
	for _, one := range first {
		for _, other := range second {
			words = append(words, string(one)+string(other))
		}
	}
	return words
}

// following is what follows a rune in those of the words that begin with it.
func following(words []string, first rune) []string {
	var rests []string
	for _, word := range words {
		if rest, begins := strings.CutPrefix(word, string(first)); begins {
			rests = append(rests, rest)
		}
	}
	return rests
}

// graphBySaying is how many states the graph of the words has, and its text,
// said as P7 and P8 say it.
func graphBySaying(words []string) (int, string) {
	runes := []rune(strings.Join(words, ""))
	slices.Sort(runes)
	runes = slices.Compact(runes)
	states := [][]string{slices.Sorted(slices.Values(words))}
	lines := ""
	for n := 0; n < len(states); n++ {
		line := "."
		if slices.Contains(states[n], "") {
			line = "!"
		}
		for _, r := range runes {
			next := following(states[n], r)
			if len(next) == 0 {
				continue
			}
			to := slices.IndexFunc(states, func(met []string) bool { return slices.Equal(met, next) })
			if to < 0 {
				to = len(states)
				states = append(states, next)
			}
			line += fmt.Sprintf(" %c%d", r, to)
		}
		lines += line + "\n"
	}
	return len(states), fmt.Sprintf("gloss %d\n%s", len(states), lines)
}

// subsets hands out all choices among the words.
func subsets(words []string, hand func([]string)) {
	for choice := range 1 << len(words) {
		var chosen []string
		for i, word := range words {
			if choice>>i&1 == 1 {
				chosen = append(chosen, word)
			}
		}
		hand(chosen)
	}
}

// manyLists are lists of words of many kinds.
func manyLists() [][]string {
	lists := [][]string{
		nil, {"a"}, {"é"}, {"日"}, {"😀"}, {"\ufffd"}, {"\U0010ffff"}, {"\x7f"}, {"!"},
		{strings.Repeat("a", maxRunes)}, {strings.Repeat("😀", maxRunes)}, {"abcdefghij"},
		{"cat", "act", "cats", "dog"}, {"tap", "taps", "top", "tops"},
		{"z", "é", "日", "😀", "zz", "éé", "日日", "😀😀"}, {"日本語", "日本", "本日", "é", "éa", "z", "😀"},
		{"0", "1", "9", "10", "01", "11", "111", "90"}, {"!", ".", "!.", ".!", "..", "!!", "!1", ".0"},
		{"gloss", "gloss1", "1gloss", "g", "ss"}, {"posted", "poster", "posting", "spot", "stop", "stops"},
		manyWords(1), manyWords(maxWords - 1), manyWords(maxWords), alone(1), alone(2), alone(11), alone(12), alone(maxWords),
		product("abcdefgh", "vwxyz"), product("abcde", "xyz日éÿ😀!"),
	}
	for n := range maxRunes {
		lists = append(lists, alone(maxWords)[:4*n], []string{strings.Repeat("ab", n)[:n] + "c", "c"[:n%2] + "d"})
	}
	for chunk := range slices.Chunk(allWords("aé日😀", 4), maxWords) {
		lists = append(lists, chunk)
	}
	return lists
}

func TestP7States(t *testing.T) {
	for _, c := range []struct {
		what  string
		words []string
		want  int
	}{
		{"the example", []string{"cat", "act", "cats", "dog"}, 9},
		{"the other example", []string{"tap", "taps", "top", "tops"}, 5},
		{"no words", nil, 1},
		{"a word of one rune", []string{"a"}, 2},
		{"a word of two runes", []string{"ab"}, 3},
		{"a word of MaxRunes runes", []string{"abcdefghij"}, maxRunes + 1},
		{"a word of MaxRunes times the same rune", []string{strings.Repeat("a", maxRunes)}, maxRunes + 1},
		{"a word of MaxRunes runes of four bytes", []string{strings.Repeat("😀", maxRunes)}, maxRunes + 1},
		{"other runes alone", []string{"a", "b", "c"}, 2},
		{"words that end alike", []string{"sing", "ring", "king"}, 5},
		{"words that end alike behind other lengths", []string{"ing", "ring", "bring"}, 6},
		{"words that begin alike", []string{"tan", "tap", "tar"}, 4},
		{"words that begin alike and end each their own way", []string{"tabc", "tdef"}, 7},
		{"words that begin and end alike", []string{"tap", "top", "tip"}, 4},
		{"a word that begins another one", []string{"tap", "taps"}, 5},
		{"words that begin one another", []string{"a", "aa", "aaa"}, 4},
		{"a word that ends another one", []string{"tap", "ap"}, 4},
		{"what follows is the same but for one word", []string{"ax", "ay", "bx"}, 4},
		{"what follows is the same but for a word that may end", []string{"a", "ax", "bx"}, 4},
		{"the same behind other beginnings and lengths", []string{"ax", "bax"}, 4},
		{"all of two runes, twice", product("ab", "ab"), 3},
		{"runes of one to four bytes that end alike", []string{"zs", "és", "日s", "😀s"}, 3},
		{"runes whose bytes begin alike", []string{"éé", "éè"}, 3},
		{"runes whose bytes end alike", []string{"é", "ũ"}, 2},
		{"MaxWords words in few states", product("abcdefgh", "vwxyz"), 3},
		{"MaxWords words of one rune", strings.Split("abcdefghijklmnopqrstuvwxyzABCDEFGHIJKLMN", ""), 2},
		{"MaxWords words that have nothing alike", alone(maxWords), mostStates},
	} {
		if got := build(t, c.words...).States(); got != c.want {
			t.Errorf("%s: States() of %q = %d, want %d", c.what, c.words, got, c.want)
		}
	}
}

func TestP7StatesAsThePromiseSaysIt(t *testing.T) {
	for _, words := range manyLists() {
		want, _ := graphBySaying(words)
		if got := build(t, words...).States(); got != want {
			t.Errorf("States() of %q = %d, want %d", words, got, want)
		}
	}
}

func TestP7OneStateForTheSameWords(t *testing.T) {
	subsets(allWords("ab", 3), func(words []string) {
		want, text := graphBySaying(words)
		l := build(t, words...)
		if l.States() != want || l.Encode() != text {
			t.Fatalf("%q: %d states, %q, want %d, %q", words, l.States(), l.Encode(), want, text)
		}
	})
}

func TestP7StatesAreNumberedAsTheyCome(t *testing.T) {
	for _, c := range []struct {
		what  string
		words []string
		want  string
	}{
		{"all that the first state leads to ahead of what follows", []string{"ax", "by", "cz"}, "gloss 5\n. a1 b2 c3\n. x4\n. y4\n. z4\n!\n"},
		{"by the runes, whatever comes first", []string{"b", "bb", "ab"}, "gloss 4\n. a1 b2\n. b3\n! b3\n!\n"},
		{"a state that was met keeps its number", []string{"a", "bc", "bd", "e"}, "gloss 3\n. a1 b2 e1\n!\n. c1 d1\n"},
		{"a state that is met first by a later arrow", []string{"ab", "b"}, "gloss 3\n. a1 b2\n. b2\n!\n"},
		{"runes of one to four bytes", []string{"😀b", "日a", "é", "z1"}, "gloss 5\n. z1 é2 日3 😀4\n. 12\n!\n. a2\n. b2\n"},
	} {
		if got := build(t, c.words...).Encode(); got != c.want {
			t.Errorf("%s: Encode() of %q = %q, want %q", c.what, c.words, got, c.want)
		}
	}
}

func TestP7TheWayToTheWordsIsNotSeen(t *testing.T) {
	words := []string{"taps", "tops", "top", "日本", "tap"}
	want, text := graphBySaying(words)
	orders(slices.Clone(words), 0, func(given []string) {
		l := build(t)
		for _, word := range given {
			l, _, _ = l.With(word, word+"x")
			l, _, _ = l.Without(word + "x")
		}
		if l.States() != want || l.Encode() != text {
			t.Errorf("%q: %d states, %q, want %d, %q", given, l.States(), l.Encode(), want, text)
		}
	})
}

func TestP7TheSameIsAnsweredAgain(t *testing.T) {
	for _, words := range [][]string{manyWords(maxWords), alone(maxWords), product("abcdefgh", "vwxyz")} {
		want, text := graphBySaying(words)
		l := build(t, words...)
		for range 30 {
			if l.States() != want || l.Encode() != text {
				t.Fatalf("%d states, %q, want %d, %q", l.States(), l.Encode(), want, text)
			}
		}
		wantWords(t, "after States and Encode", l, words...)
	}
}

func TestP7ALexiconKeepsItsStates(t *testing.T) {
	l := build(t, "tap", "taps", "top", "tops")
	l.With("dog", "cat")
	l.Without("tap")
	l.With("dog", "")
	l.Without("tap", "dog")
	for _, text := range oddTexts() {
		callAll(l, text, []string{text}, 1, 1)
	}
	if got := l.States(); got != 5 {
		t.Errorf("States() = %d after other calls, want 5", got)
	}
	more, _, _ := l.With("a")
	fewer, _, _ := l.Without("tap", "taps", "top")
	none, _, _ := fewer.Without("tops")
	for _, c := range []struct {
		l    *gloss.Lexicon
		want int
	}{{more, 5}, {fewer, 5}, {none, 1}, {l, 5}} {
		if got := c.l.States(); got != c.want {
			t.Errorf("States() of %q = %d, want %d", c.l.Prefix(""), got, c.want)
		}
	}
}
