package gloss_test

import (
	"math"
	"slices"
	"strings"
	"testing"

	"gloss/gloss"
)

const maxNear = 3

// wantNear asks for an answer of Near that is no refusal.
func wantNear(t *testing.T, l *gloss.Lexicon, word string, far, most int, want []gloss.Match) {
	t.Helper()
	got, e := l.Near(word, far, most)
	if !slices.Equal(got, want) || e != gloss.OK {
		t.Errorf("of %q: Near(%q, %d, %d) = %v, %d, want %v, 0", l.Prefix(""), word, far, most, got, e, want)
	}
}

// wantFar asks that two words are so far, whichever of them is looked for, and
// that they are found from there on alone.
func wantFar(t *testing.T, one, other string, n int) {
	t.Helper()
	for far := range maxNear + 1 {
		var there, back []gloss.Match
		if n <= far {
			there, back = []gloss.Match{{Word: other, Far: n}}, []gloss.Match{{Word: one, Far: n}}
		}
		wantNear(t, build(t, other), one, far, 1, there)
		wantNear(t, build(t, one), other, far, 1, back)
	}
}

// farBySaying is how far two words are, said as P6 says it.
func farBySaying(one, other []rune) int {
	a, b := len(one), len(other)
	if a == 0 || b == 0 {
		return a + b
	}
	changed := farBySaying(one[:a-1], other[:b-1])
	if one[a-1] != other[b-1] {
		changed++
	}
	n := min(farBySaying(one[:a-1], other)+1, farBySaying(one, other[:b-1])+1, changed)
	if a >= 2 && b >= 2 && one[a-1] == other[b-2] && one[a-2] == other[b-1] {
		n = min(n, farBySaying(one[:a-2], other[:b-2])+1)
	}
	return n
}

// nearBySaying is what Near should answer for words that rise.
func nearBySaying(rising []string, word string, far, most int) []gloss.Match {
	var told []gloss.Match
	for n := range far + 1 {
		for _, other := range rising {
			if len(told) < most && farBySaying([]rune(word), []rune(other)) == n {
				told = append(told, gloss.Match{Word: other, Far: n})
			}
		}
	}
	return told
}

func TestP6TheExample(t *testing.T) {
	l := build(t, "cat", "act", "cats", "dog")
	wantNear(t, l, "cta", 1, 9, []gloss.Match{{Word: "cat", Far: 1}})
	wantNear(t, l, "cat", 3, 9, []gloss.Match{{Word: "cat", Far: 0}, {Word: "act", Far: 1}, {Word: "cats", Far: 1}, {Word: "dog", Far: 3}})
}

func TestP6HowFar(t *testing.T) {
	for _, c := range []struct {
		what, one, other string
		far              int
	}{
		{"the same", "tap", "tap", 0},
		{"the same, of one rune", "a", "a", 0},
		{"one more ahead", "tap", "stap", 1},
		{"one more within", "tap", "trap", 1},
		{"one more behind", "tap", "taps", 1},
		{"three more, ahead, within and behind", "tap", "straps", 3},
		{"two more behind", "tap", "tapes", 2},
		{"three more behind", "tap", "tapers", 3},
		{"four more behind", "tap", "tapered", 4},
		{"three more ahead", "tap", "abctap", 3},
		{"four more ahead", "tap", "abcdtap", 4},
		{"one of one rune and one of two", "a", "ab", 1},
		{"the rune is the last one", "a", "bca", 2},
		{"one of one rune and one of four", "a", "bcad", 3},
		{"one of one rune and one of five", "a", "bcade", 4},
		{"another rune ahead", "tap", "map", 1},
		{"another rune within", "tap", "top", 1},
		{"another rune behind", "tap", "tan", 1},
		{"another rune alone", "a", "b", 1},
		{"another rune twice", "tap", "ton", 2},
		{"another rune three times", "tap", "dog", 3},
		{"another rune four times", "taps", "dogn", 4},
		{"capitals are other runes", "tap", "TAP", 3},
		{"two exchanged ahead", "tap", "atp", 1},
		{"two exchanged behind", "tap", "tpa", 1},
		{"two exchanged alone", "ab", "ba", 1},
		{"two exchanged twice", "abcd", "badc", 2},
		{"two exchanged twice, with runes between", "abxcd", "baxdc", 2},
		{"two exchanged three times", "abcdef", "badcfe", 3},
		{"two exchanged four times", "abcdefgh", "badcfehg", 4},
		{"two that are not beside each other", "abc", "cba", 2},
		{"a rune that goes through two others", "abc", "bca", 2},
		{"what was exchanged is not changed again", "ca", "abc", 3},
		{"what was exchanged gets no rune between", "ab", "bxa", 3},
		{"two exchanged of the same rune", "aab", "aba", 1},
		{"the same rune more often", "aaa", "aaaaa", 2},
		{"each kind once", "abcdef", "bacxefg", 3},
		{"exchanged, and one less", "abcd", "bac", 2},
		{"nothing alike", "a", "xyz", 3},
		{"nothing alike, too far", "a", "wxyz", 4},
	} {
		t.Run(c.what, func(t *testing.T) { wantFar(t, c.one, c.other, c.far) })
	}
}

func TestP6RunesNotBytes(t *testing.T) {
	for _, c := range []struct {
		what, one, other string
		far              int
	}{
		{"another rune of two bytes, one of them the same", "é", "è", 1},
		{"another rune of two bytes", "aéb", "añb", 1},
		{"another rune of three bytes", "日本", "日木", 1},
		{"another rune of four bytes", "😀", "😁", 1},
		{"runes of one and of four bytes", "a", "😀", 1},
		{"runes of two and of three bytes", "é", "日", 1},
		{"one more of three bytes", "日本", "日本語", 1},
		{"one more of four bytes", "é", "😀é", 1},
		{"two exchanged of three bytes", "日本", "本日", 1},
		{"two exchanged of one and of four bytes", "a😀", "😀a", 1},
		{"two exchanged of two and of three bytes", "xé日y", "x日éy", 1},
		{"two exchanged three times", "aé日😀éa", "éa😀日aé", 3},
		{"three more of all kinds", "a", "é日a😀", 3},
		{"four more of all kinds", "a", "é日a😀é", 4},
		{"bytes that are exchanged are another rune", "\u0080", "\u00c2", 1},
		{"written with one rune, or with two", "é", "e\u0301", 2},
		{"the rune that stands for what is none", "\ufffd", "a", 1},
		{"the same rune that stands for what is none", "\ufffd", "\ufffd", 0},
		{"the least and the greatest rune", "!", "\U0010ffff", 1},
	} {
		t.Run(c.what, func(t *testing.T) { wantFar(t, c.one, c.other, c.far) })
	}
}

func TestP6WordsOfMaxRunes(t *testing.T) {
	for _, long := range []string{"abcdefghij", "äbcdéfghïj", "日月火水木金土年分秒", "😀😁😂😃😄😅😆😇😈😉"} {
		runes := []rune(long)
		without := func(from, to int) string { return string(slices.Delete(slices.Clone(runes), from, to)) }
		exchanged := func(at ...int) string {
			other := slices.Clone(runes)
			for _, i := range at {
				other[i], other[i+1] = other[i+1], other[i]
			}
			return string(other)
		}
		wantFar(t, long, long, 0)
		wantFar(t, long, without(0, 1), 1)
		wantFar(t, long, without(0, 2), 2)
		wantFar(t, long, without(3, 6), 3)
		wantFar(t, long, without(7, 10), 3)
		wantFar(t, long, without(6, 10), 4)
		wantFar(t, long, without(1, 10), 9)
		wantFar(t, long, without(0, 9), 9)
		wantFar(t, long, "x"+without(9, 10), 2)
		wantFar(t, long, exchanged(0), 1)
		wantFar(t, long, exchanged(8), 1)
		wantFar(t, long, exchanged(0, 4, 8), 3)
		wantFar(t, long, exchanged(0, 2, 4, 8), 4)
		wantFar(t, long, strings.Repeat("x", maxRunes), 10)
	}
}

func TestP6NearestFirstThenLower(t *testing.T) {
	want := []gloss.Match{
		{Word: "mm", Far: 0},
		{Word: "amm", Far: 1}, {Word: "m", Far: 1}, {Word: "mma", Far: 1}, {Word: "mz", Far: 1}, {Word: "zm", Far: 1}, {Word: "日m", Far: 1}, {Word: "😀m", Far: 1},
		{Word: "a", Far: 2}, {Word: "ammz", Far: 2}, {Word: "z", Far: 2}, {Word: "é", Far: 2}, {Word: "éz", Far: 2},
		{Word: "azz", Far: 3}, {Word: "ééé", Far: 3},
	}
	words := []string{"far", "zzzzz", "toofaraway"}
	for _, m := range want {
		words = append(words, m.Word)
	}
	want = slices.Insert(want, 14, gloss.Match{Word: "far", Far: 3})
	for range 20 {
		slices.Reverse(words)
		l := build(t, words...)
		for far, n := range []int{1, 8, 13, 16} {
			for most := range 20 {
				wantNear(t, l, "mm", far, most, want[:min(n, most)])
			}
			wantNear(t, l, "mm", far, math.MaxInt, want[:n])
		}
	}
}

func TestP6FarAndMostAtTheirEdges(t *testing.T) {
	words := manyWords(maxWords)
	l := build(t, words...)
	wantNear(t, l, words[7], 0, math.MaxInt, []gloss.Match{{Word: words[7], Far: 0}})
	wantNear(t, l, words[7], 0, 1, []gloss.Match{{Word: words[7], Far: 0}})
	wantNear(t, l, words[7], 0, 0, nil)
	wantNear(t, l, words[7], maxNear, 0, nil)
	wantNear(t, l, "x", 0, maxWords, nil)
	for _, most := range []int{1, maxWords - 1, maxWords, maxWords + 1, math.MaxInt} {
		var want []gloss.Match
		for _, word := range words[:min(most, maxWords)] {
			want = append(want, gloss.Match{Word: word, Far: 3})
		}
		wantNear(t, l, "XYZ", maxNear, most, want)
		wantNear(t, l, "XYZ", maxNear-1, most, nil)
	}
}

func TestP6AnEmptyLexicon(t *testing.T) {
	full := build(t, manyWords(maxWords)...)
	emptied, _, _ := full.Without(manyWords(maxWords)...)
	for _, l := range []*gloss.Lexicon{build(t), emptied} {
		for far := range maxNear + 1 {
			for _, most := range []int{0, 1, maxWords, math.MaxInt} {
				wantNear(t, l, "a", far, most, nil)
				wantNear(t, l, "waa", far, most, nil)
				wantNear(t, l, strings.Repeat("日", maxRunes), far, most, nil)
			}
		}
	}
}

func TestP6WordsThatComeAndGo(t *testing.T) {
	l := build(t, "tap", "top")
	more, _, _ := l.With("tip")
	fewer, _, _ := more.Without("tap")
	wantNear(t, l, "tup", 1, 9, []gloss.Match{{Word: "tap", Far: 1}, {Word: "top", Far: 1}})
	wantNear(t, more, "tup", 1, 9, []gloss.Match{{Word: "tap", Far: 1}, {Word: "tip", Far: 1}, {Word: "top", Far: 1}})
	wantNear(t, fewer, "tup", 1, 9, []gloss.Match{{Word: "tip", Far: 1}, {Word: "top", Far: 1}})
}

// TestP6AsThePromiseSays holds Near against P6's own words, for all words of
// one to five of two runes, and for some of three runes.
func TestP6AsThePromiseSays(t *testing.T) {
	all := append(allWords("aé", 5), allWords("x日😀", 3)...)
	asked := append(slices.Clone(all), "aéx", "xéa日", "éxaéx", "b", "日éa😀", "aééaaé")
	for chunk := range slices.Chunk(all, maxWords) {
		rising := slices.Sorted(slices.Values(chunk))
		l := build(t, chunk...)
		for _, word := range asked {
			for far := range maxNear + 1 {
				wantNear(t, l, word, far, maxWords, nearBySaying(rising, word, far, maxWords))
			}
			wantNear(t, l, word, maxNear, 5, nearBySaying(rising, word, maxNear, 5))
		}
	}
}

// allWords makes all words of at most so many of these runes.
func allWords(runes string, most int) []string {
	var all []string
	last := []string{""}
	for range most {
		var longer []string
		for _, word := range last {
			for _, r := range runes {
				longer = append(longer, word+string(r))
			}
		}
		all, last = append(all, longer...), longer
	}
	return all
}

func TestP6WrongWords(t *testing.T) {
	lexicons := []*gloss.Lexicon{build(t), build(t, "cat", "act", "\ufffd"), build(t, manyWords(maxWords)...)}
	long := strings.Repeat("a", maxRunes+1)
	for _, c := range []struct {
		word string
		want gloss.Errno
	}{
		{"", gloss.ErrForm},
		{"\xff", gloss.ErrForm},
		{"ca\xc3", gloss.ErrForm},
		{"\xed\xa0\x80", gloss.ErrForm},
		{long + "\xff", gloss.ErrForm},
		{long, gloss.ErrLong},
		{long + " ", gloss.ErrLong},
		{strings.Repeat("日", maxRunes+1), gloss.ErrLong},
		{strings.Repeat("x", 1<<20), gloss.ErrLong},
		{" ", gloss.ErrForm},
		{"a b", gloss.ErrForm},
		{"cat\n", gloss.ErrForm},
		{"\x00", gloss.ErrForm},
	} {
		for _, l := range lexicons {
			for _, far := range oddNumbers() {
				for _, most := range oddNumbers() {
					wantNoNear(t, l, c.word, far, most, c.want)
				}
			}
		}
	}
}

// wantNoNear asks that nothing but the error was answered.
func wantNoNear(t *testing.T, l *gloss.Lexicon, word string, far, most int, want gloss.Errno) {
	t.Helper()
	if got, e := l.Near(word, far, most); len(got) != 0 || e != want {
		t.Errorf("Near(%.20q, %d, %d) = %v, %d, want nothing, %d", word, far, most, got, e, want)
	}
}

func TestP6WrongNumbers(t *testing.T) {
	lexicons := []*gloss.Lexicon{build(t), build(t, "cat", "act"), build(t, manyWords(maxWords)...)}
	wrongFars := []int{math.MinInt, math.MinInt32, -3, -1, maxNear + 1, 9, maxWords, math.MaxInt32, math.MaxInt}
	wrongMosts := []int{math.MinInt, math.MinInt32, -40, -1}
	for _, l := range lexicons {
		for _, word := range []string{"cat", "a", "waa", "日本", strings.Repeat("a", maxRunes)} {
			for _, far := range wrongFars {
				for _, most := range append([]int{0, 1, 9, math.MaxInt}, wrongMosts...) {
					wantNoNear(t, l, word, far, most, gloss.ErrArg)
				}
			}
			for far := range maxNear + 1 {
				for _, most := range wrongMosts {
					wantNoNear(t, l, word, far, most, gloss.ErrArg)
				}
			}
		}
	}
}

// TestP6NoCallPanics goes through all pairs of numbers, for a far that may be
// asked for is looked at with a most that may, too.
func TestP6NoCallPanics(t *testing.T) {
	for _, l := range []*gloss.Lexicon{build(t), build(t, "tap", strings.Repeat("日", maxRunes)), build(t, manyWords(maxWords)...)} {
		for _, text := range oddTexts() {
			for _, far := range oddNumbers() {
				for _, most := range oddNumbers() {
					if got, e := l.Near(text, far, most); e != gloss.OK && len(got) != 0 {
						t.Errorf("Near(%.20q, %d, %d) = %v with the error %d", text, far, most, got, e)
					}
				}
			}
		}
	}
}

func TestP6AnswersAreNewMemory(t *testing.T) {
	words := []string{"tap", "taps", "top"}
	l := build(t, words...)
	want := []gloss.Match{{Word: "tap", Far: 0}, {Word: "taps", Far: 1}, {Word: "top", Far: 1}}
	for most := range 4 {
		first, _ := l.Near("tap", 1, most)
		second, _ := l.Near("tap", 1, most)
		whole := first[:cap(first)]
		for i := range whole {
			whole[i] = gloss.Match{Word: "overwritten", Far: 9}
		}
		if !slices.Equal(second, want[:most]) {
			t.Errorf("two answers of Near share memory: %v, want %v", second, want[:most])
		}
		wantNear(t, l, "tap", 1, most, want[:most])
		wantWords(t, "an answer of Near overwritten", l, words...)
	}
}

func TestP6AnsweredWordsAreNewMemory(t *testing.T) {
	l := build(t, "tap", "taps")
	asked := strings.Clone("tap")
	first, _ := l.Near(asked, 1, 9)
	second, _ := l.Near(asked, 1, 9)
	for i, m := range first {
		if shareBytes(m.Word, asked) || shareBytes(m.Word, second[i].Word) {
			t.Errorf("an answer of Near shares the bytes of %q", m.Word)
		}
		if kept, _ := l.At(i); shareBytes(m.Word, kept) {
			t.Errorf("Near and At share the bytes of %q", m.Word)
		}
	}
}

// TestP6LeftOutWordsAreNotHeld asks that nothing stands behind the list's end.
func TestP6LeftOutWordsAreNotHeld(t *testing.T) {
	l := build(t, "tap", "taps", "top", "tip", "tup")
	got, _ := l.Near("tap", 1, 2)
	for _, m := range got[len(got):cap(got)] {
		if m != (gloss.Match{}) {
			t.Errorf("behind the end of the list stands %v", m)
		}
	}
}

func TestP6NoCallChangesALexicon(t *testing.T) {
	words := []string{"tops", "tap", "taps", "é", "日本"}
	l := build(t, words...)
	for _, text := range append(oddTexts(), words...) {
		for _, n := range []int{-1, 0, 1, maxNear, maxNear + 1} {
			l.Near(text, n, 2)
			l.Near(text, 2, n)
		}
		wantWords(t, "after calls of Near", l, words...)
	}
}

func TestP6TheWayToTheWordsIsNotSeen(t *testing.T) {
	words := []string{"taps", "tap", "top", "é", "apt"}
	want := []gloss.Match{{Word: "tap", Far: 0}, {Word: "taps", Far: 1}, {Word: "top", Far: 1}, {Word: "apt", Far: 2}, {Word: "é", Far: 3}}
	orders(slices.Clone(words), 0, func(given []string) {
		wantNear(t, build(t, given...), "tap", maxNear, 9, want)
		more, _, _ := build(t, given[:2]...).With(given[2:]...)
		wantNear(t, more, "tap", maxNear, 9, want)
		fewer, _, _ := build(t, append([]string{"tip", "t"}, given...)...).Without("t", "tip")
		wantNear(t, fewer, "tap", maxNear, 9, want)
	})
}
