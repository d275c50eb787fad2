package gloss_test

import (
	"fmt"
	"slices"
	"strings"
	"testing"

	"gloss/gloss"
)

// topsText is the document's own text.
const topsText = "gloss 5\n. t1\n. a2 o2\n. p3\n! s4\n!\n"

// wantText asks that words are written so, and that the text is read so.
func wantText(t *testing.T, words []string, text string) {
	t.Helper()
	if got := build(t, words...).Encode(); got != text {
		t.Errorf("Encode() of %q = %q, want %q", words, got, text)
	}
	l, e := gloss.Decode(text)
	if l == nil || e != gloss.OK {
		t.Errorf("Decode(%q) = %v, %d, want %q", text, l, e, words)
		return
	}
	wantWords(t, "Decode", l, words...)
	if got := l.Encode(); got != text {
		t.Errorf("%q is written again as %q", text, got)
	}
}

// wantNoData asks that a text is refused, and no lexicon answered.
func wantNoData(t *testing.T, what, text string) {
	t.Helper()
	if l, e := gloss.Decode(text); l != nil || e != gloss.ErrData {
		t.Errorf("%s: Decode(%.200q) = %v, %d, want nil, ErrData", what, text, l, e)
	}
}

// wantJust asks that a text is refused if it is not just the one of the words
// that are read.
func wantJust(t *testing.T, what, text string) {
	t.Helper()
	l, e := gloss.Decode(text)
	if e != gloss.OK {
		if l != nil || e != gloss.ErrData {
			t.Errorf("%s: Decode(%q) = %v, %d, want nil, ErrData", what, text, l, e)
		}
		return
	}
	if l == nil {
		t.Errorf("%s: Decode(%q) = nil, 0", what, text)
		return
	}
	if _, want := graphBySaying(l.Prefix("")); text != want || l.Encode() != want || l.Words() > maxWords {
		t.Errorf("%s: Decode(%q) has the words %q, whose text is %q", what, text, l.Prefix(""), want)
	}
}

func TestP8TheExamples(t *testing.T) {
	wantText(t, []string{"tap", "taps", "top", "tops"}, topsText)
	wantText(t, []string{"cat", "act", "cats", "dog"}, "gloss 9\n. a1 c2 d3\n. c4\n. a5\n. o6\n. t7\n. t8\n. g7\n!\n! s7\n")
}

func TestP8Texts(t *testing.T) {
	wantText(t, nil, "gloss 1\n.\n")
	wantText(t, []string{"a"}, "gloss 2\n. a1\n!\n")
	wantText(t, []string{"a", "ab"}, "gloss 3\n. a1\n! b2\n!\n")
	wantText(t, []string{"z", "é", "日", "😀"}, "gloss 2\n. z1 é1 日1 😀1\n!\n")
	wantText(t, []string{"\ufffd", "\U0010ffff", "\x7f", "\u0080"}, "gloss 2\n. \x7f1 \u00801 \ufffd1 \U0010ffff1\n!\n")
	wantText(t, []string{"0", "1", "11"}, "gloss 3\n. 01 12\n!\n! 11\n")
	wantText(t, []string{"!", "!.", ".", "..", "-1"}, "gloss 4\n. !1 -2 .1\n! .3\n. 13\n!\n")
	wantText(t, []string{"abcdefghij"}, "gloss 11\n. a1\n. b2\n. c3\n. d4\n. e5\n. f6\n. g7\n. h8\n. i9\n. j10\n!\n")
	wantText(t, []string{"日本語日本語日本語日"}, "gloss 11\n. 日1\n. 本2\n. 語3\n. 日4\n. 本5\n. 語6\n. 日7\n. 本8\n. 語9\n. 日10\n!\n")
	wantText(t, product("abcdefgh", "vwxyz"), "gloss 3\n. a1 b1 c1 d1 e1 f1 g1 h1\n. v2 w2 x2 y2 z2\n!\n")
}

func TestP8NumbersOfManyDigits(t *testing.T) {
	text := build(t, alone(maxWords)...).Encode()
	for _, piece := range []string{"gloss 362\n. A1 B2 C3 ", " I9 J10 ", " h40\n. A41\n", "\n. h80\n", "\n. T100\n", "\n. h360\n. A361\n", ". h361\n!\n"} {
		if !strings.Contains(text, piece) {
			t.Errorf("%q is not within %q", piece, text)
		}
	}
	wantText(t, alone(maxWords), text)
	for n := range maxWords {
		states, text := graphBySaying(alone(n))
		if !strings.HasPrefix(text, fmt.Sprintf("gloss %d\n", states)) {
			t.Fatalf("the test's own text is wrong: %q", text)
		}
		wantText(t, alone(n), text)
	}
}

func TestP8WrittenAndRead(t *testing.T) {
	for _, words := range manyLists() {
		_, text := graphBySaying(words)
		wantText(t, words, text)
	}
	n := 0
	subsets(allWords("1é", 3), func(words []string) {
		if n++; n%7 == 0 {
			_, text := graphBySaying(words)
			wantText(t, words, text)
		}
	})
}

func TestP8AReadLexiconIsLikeABuiltOne(t *testing.T) {
	l, _ := gloss.Decode(topsText)
	more, e, at := l.With("dog", "tapas")
	if e != gloss.OK || at != 0 {
		t.Fatalf("With = %d, %d", e, at)
	}
	wantWords(t, "With of what was read", more, "tap", "taps", "top", "tops", "dog", "tapas")
	fewer, e, at := more.Without("tap", "dog")
	if e != gloss.OK || at != 0 {
		t.Fatalf("Without = %d, %d", e, at)
	}
	wantWords(t, "Without of what was read", fewer, "taps", "top", "tops", "tapas")
	wantNear(t, l, "tpa", 1, 9, []gloss.Match{{Word: "tap", Far: 1}})
	refused, e, at := l.With("a", "top")
	wantRefused(t, "With a word that was read", refused, e, at, gloss.ErrTwice, 1)
	refused, e, at = l.Without("t")
	wantRefused(t, "Without a word that was not read", refused, e, at, gloss.ErrNone, 0)
	full, _ := gloss.Decode(build(t, manyWords(maxWords)...).Encode())
	refused, e, at = full.With("a")
	wantRefused(t, "With, MaxWords being read", refused, e, at, gloss.ErrMany, 0)
	wantWords(t, "what was read, afterwards", l, "tap", "taps", "top", "tops")
}

func TestP8WordsThatComeAndGoLeaveTheText(t *testing.T) {
	for _, words := range manyLists() {
		l := build(t, words...)
		text := l.Encode()
		for _, word := range words {
			gone, _, _ := l.Without(word)
			if gone.Encode() == text {
				t.Errorf("of %q: the text is the same without %q", words, word)
			}
			l, _, _ = gone.With(word)
		}
		if len(words) < maxWords {
			more, _, _ := l.With("xyzzy")
			if more.Encode() == text {
				t.Errorf("of %q: the text is the same with another word", words)
			}
			l, _, _ = more.Without("xyzzy")
		}
		if got := l.Encode(); got != text {
			t.Errorf("words came and went: %q, want %q", got, text)
		}
	}
}

func TestP8OtherWordsHaveAnotherText(t *testing.T) {
	told := map[string][]string{}
	subsets(allWords("a1", 3), func(words []string) {
		text := build(t, words...).Encode()
		if other, met := told[text]; met {
			t.Fatalf("%q and %q are both written as %q", words, other, text)
		}
		told[text] = words
	})
}

func TestP8NoCallChangesALexicon(t *testing.T) {
	l, _ := gloss.Decode(topsText)
	same, _ := gloss.Decode(topsText)
	if l == same {
		t.Errorf("Decode answers the same lexicon twice")
	}
	for _, text := range append(oddTexts(), topsText, "gloss 1\n.\n") {
		callAll(l, text, []string{text, "tap"}, 1, 1)
		callAll(l, text, []string{"tap", text}, 2, 2)
	}
	l.Without("tap", "top")
	l.With("a", "b")
	if l.Encode() != topsText || same.Encode() != topsText {
		t.Errorf("written as %q and %q after other calls", l.Encode(), same.Encode())
	}
	wantWords(t, "after other calls", l, "tap", "taps", "top", "tops")
}

func TestP8AnswersAreNewMemory(t *testing.T) {
	text := strings.Clone(topsText)
	l, _ := gloss.Decode(text)
	first, second := l.Encode(), l.Encode()
	if shareBytes(first, second) || shareBytes(first, text) {
		t.Errorf("two answers of Encode share their bytes, or one shares them with what was read")
	}
	for _, word := range l.Prefix("") {
		if shareBytes(word, text) {
			t.Errorf("the bytes of %q are those of what was read", word)
		}
	}
}

func TestP8TheSameIsAnsweredAgain(t *testing.T) {
	text := build(t, manyWords(maxWords)...).Encode()
	for range 30 {
		l, e := gloss.Decode(text)
		if e != gloss.OK {
			t.Fatalf("Decode = %d", e)
		}
		wantWords(t, "read again", l, manyWords(maxWords)...)
		wantNoData(t, "refused again", text+".\n")
	}
}

func TestP8LongTexts(t *testing.T) {
	for _, ahead := range []string{"", topsText, "gloss 1\n.\n", "gloss 1", "gloss 2\n. ", "\xff", "gloss 2\n. a"} {
		for _, fill := range []string{"\n", " ", "0", "1", "x", ".\n", "!\n", " a1", "\xff", "é"} {
			text := strings.Repeat(fill, maxText/len(fill)+1)
			whole := (ahead + text)[:maxText]
			wantNoData(t, "a text of MaxText bytes", whole)
			for _, more := range []string{"\n", "x", whole} {
				if l, e := gloss.Decode(whole + more); l != nil || e != gloss.ErrLong {
					t.Errorf("Decode of %.20q and so on, of %d bytes = %v, %d, want nil, ErrLong", ahead+fill, len(whole+more), l, e)
				}
			}
		}
	}
}

func TestP8WrongTexts(t *testing.T) {
	for _, c := range []struct{ what, text string }{
		{"the empty text", ""},
		{"a newline alone", "\n"},
		{"no states", "gloss 0\n"},
		{"no states, and a line", "gloss 0\n.\n"},
		{"the empty word alone", "gloss 1\n!\n"},
		{"the empty word and another one", "gloss 2\n! a1\n!\n"},
		{"another name", "Gloss 1\n.\n"},
		{"a longer name", "glosss 1\n.\n"},
		{"a shorter name", "glos 1\n.\n"},
		{"no name", " 1\n.\n"},
		{"no number of states", "gloss \n.\n"},
		{"no first line", ". a1\n!\n"},
		{"no blank behind the name", "gloss1\n.\n"},
		{"a blank more behind the name", "gloss  1\n.\n"},
		{"a blank ahead", " gloss 1\n.\n"},
		{"a blank behind the number of states", "gloss 1 \n.\n"},
		{"a tab for a blank", "gloss\t1\n.\n"},
		{"a tab for an arrow's blank", "gloss 2\n.\ta1\n!\n"},
		{"a carriage return", "gloss 1\r\n.\r\n"},
		{"a mark of the bytes' order ahead", "\ufeffgloss 1\n.\n"},
		{"a newline ahead", "\ngloss 1\n.\n"},
		{"a newline more at the end", "gloss 1\n.\n\n"},
		{"a newline less at the end", "gloss 1\n."},
		{"an empty line behind the first one", "gloss 1\n\n.\n"},
		{"a blank at the end of a line", "gloss 2\n. a1 \n!\n"},
		{"a blank at the end of the last line", "gloss 2\n. a1\n! \n"},
		{"two blanks ahead of an arrow", "gloss 2\n.  a1\n!\n"},
		{"no blank ahead of an arrow", "gloss 2\n.a1\n!\n"},
		{"no blank between arrows", "gloss 2\n. a1b1\n!\n"},
		{"a blank within an arrow", "gloss 2\n. a 1\n!\n"},
		{"more behind the last line", "gloss 2\n. a1\n!\nmore"},
		{"another text behind it", topsText + topsText},
		{"a line more than told", "gloss 2\n. a1\n!\n!\n"},
		{"a line less than told", "gloss 3\n. a1\n!\n"},
		{"no lines", "gloss 401\n"},
		{"a state less told", "gloss 4\n. t1\n. a2 o2\n. p3\n! s4\n!\n"},
		{"a state more told", "gloss 6\n. t1\n. a2 o2\n. p3\n! s4\n!\n"},
		{"a needless 0 in the number of states", "gloss 01\n.\n"},
		{"a needless 0 in an arrow's number", "gloss 2\n. a01\n!\n"},
		{"a plus", "gloss +1\n.\n"},
		{"a minus", "gloss -1\n.\n"},
		{"a plus in an arrow's number", "gloss 2\n. a+1\n!\n"},
		{"a minus in an arrow's number", "gloss 2\n. a-1\n!\n"},
		{"a number of base sixteen", "gloss 0x1\n.\n"},
		{"a number with an underline", "gloss 1_1\n. a1\n. a2\n. a3\n. a4\n. a5\n. a6\n. a7\n. a8\n. a9\n. a10\n!\n"},
		{"a number with a point", "gloss 1.0\n.\n"},
		{"other digits", "gloss ١\n.\n"},
		{"other digits in an arrow's number", "gloss 2\n. a１\n!\n"},
		{"a number of states that wraps round to 1", "gloss 18446744073709551617\n.\n"},
		{"a number of states that wraps round to 1, of 32 bits", "gloss 4294967297\n.\n"},
		{"an arrow's number that wraps round to 1", "gloss 2\n. a18446744073709551617\n!\n"},
		{"an arrow's number that wraps round to 1, of 32 bits", "gloss 2\n. a4294967297\n!\n"},
		{"the greatest number", "gloss 2\n. a9223372036854775807\n!\n"},
		{"one more than the greatest number", "gloss 2\n. a9223372036854775808\n!\n"},
		{"a number of many digits", "gloss 2\n. a" + strings.Repeat("9", 1000) + "\n!\n"},
		{"a number of states of many digits", "gloss " + strings.Repeat("9", 1000) + "\n.\n"},
		{"no number of an arrow", "gloss 2\n. a\n!\n"},
		{"no rune of an arrow, or no number", "gloss 2\n. 1\n!\n"},
		{"another mark", "gloss 2\n? a1\n!\n"},
		{"no mark", "gloss 2\n a1\n!\n"},
		{"two marks", "gloss 2\n. a1\n!!\n"},
		{"both marks", "gloss 2\n. a1\n.!\n"},
		{"an empty line for a state", "gloss 2\n. a1\n\n"},
		{"arrows that do not rise", "gloss 2\n. b1 a1\n!\n"},
		{"arrows that do not rise, of many bytes", "gloss 2\n. 日1 é1\n!\n"},
		{"an arrow twice", "gloss 2\n. a1 a1\n!\n"},
		{"an arrow's rune twice", "gloss 3\n. a1 a2\n! b2\n!\n"},
		{"an arrow's rune twice, with other words behind it", "gloss 4\n. a1 a2\n. b3\n. c3\n!\n"},
		{"an arrow to no state", "gloss 2\n. a2\n!\n"},
		{"an arrow to no state behind one to a state", "gloss 2\n. a1 b2\n!\n"},
		{"an arrow to a state that is far from there", "gloss 2\n. a999\n!\n"},
		{"an arrow to the state itself", "gloss 2\n. a1\n! a1\n"},
		{"an arrow to the first state itself", "gloss 1\n. a0\n"},
		{"an arrow to the first state itself, with an end", "gloss 1\n! a0\n"},
		{"an arrow to the first state itself, and one to an end", "gloss 2\n. a1 b0\n!\n"},
		{"an arrow back to the first state", "gloss 2\n. a1\n! b0\n"},
		{"an arrow back to the first state, where no word can be ended", "gloss 2\n. a1\n. b0\n"},
		{"an arrow back from deep within", "gloss 4\n. a1\n. b2\n. c1 d3\n!\n"},
		{"an arrow back where a word would be too long anyway", "gloss 14\n. a1\n. a2\n. a3\n. a4\n. a5\n. a6\n. a7\n. a8\n. a9\n. a10\n. a11\n. a12\n. a0 b13\n!\n"},
		{"numbered from the end", "gloss 3\n. a2 b1\n! b2\n!\n"},
		{"numbered depth first", "gloss 5\n. a1 b3 c4\n. x2\n!\n. y2\n. z2\n"},
		{"the first state is the last one", "gloss 2\n!\n. a0\n"},
		{"a state to which nothing leads", "gloss 3\n. a1\n!\n. b1\n"},
		{"a state to which nothing leads, behind no words", "gloss 2\n.\n!\n"},
		{"a state to which nothing but itself leads", "gloss 3\n. a1\n!\n! b2\n"},
		{"a state twice", "gloss 3\n. a1 b2\n!\n!\n"},
		{"a state twice, within", "gloss 6\n. t1\n. a2 o3\n. p4\n. p4\n! s5\n!\n"},
		{"no word can be ended", "gloss 2\n. a1\n.\n"},
		{"no word can be ended on one of the ways", "gloss 3\n. a1 b2\n!\n.\n"},
		{"no word can be ended behind the last one", "gloss 3\n. a1\n! b2\n.\n"},
		{"no word can be ended from where two lead", "gloss 4\n. a1 b2\n! c3\n. d3\n.\n"},
		{"a rune of 32", "gloss 2\n.  1\n!\n"},
		{"a rune of 32 within", "gloss 3\n. a1\n.  2\n!\n"},
		{"a rune of 31", "gloss 2\n. \x1f1\n!\n"},
		{"a newline as a rune", "gloss 2\n. \n1\n!\n"},
		{"a tab as a rune", "gloss 2\n. \t1\n!\n"},
		{"a rune of 0", "gloss 2\n. \x001\n!\n"},
		{"a byte that begins nothing", "gloss 2\n. \xff1\n!\n"},
		{"a byte that goes on, alone", "gloss 2\n. \x801\n!\n"},
		{"half a rune", "gloss 2\n. \xc31\n!\n"},
		{"most of a rune", "gloss 2\n. \xf0\x9f\x981\n!\n"},
		{"half a pair", "gloss 2\n. \xed\xa0\x801\n!\n"},
		{"a rune that is longer than it must be", "gloss 2\n. \xc1\xa11\n!\n"},
		{"a rune past the last one", "gloss 2\n. \xf4\x90\x80\x801\n!\n"},
		{"a byte that is not UTF-8 for a mark", "gloss 2\n\xff a1\n!\n"},
		{"a byte that is not UTF-8 behind it", "gloss 2\n. a1\n!\n\xff"},
		{"a text within a text", "\"gloss 1\\n.\\n\""},
	} {
		wantNoData(t, c.what, c.text)
	}
}

// chain is the text of a graph of one word, or a row of states that leads to
// what is told for the last one.
func chain(arrows int, last string) string {
	text := fmt.Sprintf("gloss %d\n", arrows+1)
	for i := range arrows {
		text += fmt.Sprintf(". a%d\n", i+1)
	}
	return text + last + "\n"
}

// fan is a line of arrows by n runes to one state.
func fan(n, to int) string {
	line := "."
	for i := range n {
		line += fmt.Sprintf(" %c%d", 'A'+i, to)
	}
	return line + "\n"
}

func TestP8GraphsOfWordsThatAreTooLong(t *testing.T) {
	wantText(t, []string{strings.Repeat("a", maxRunes)}, chain(maxRunes, "!"))
	for n := maxRunes + 1; n < 400; n++ {
		wantNoData(t, "a word that is too long", chain(n, "!"))
	}
	wantNoData(t, "as long as a text can be", chain(2000, "!"))
	ends := strings.Replace(chain(maxRunes+1, "!"), fmt.Sprintf("\n. a%d\n", maxRunes+1), fmt.Sprintf("\n! a%d\n", maxRunes+1), 1)
	wantNoData(t, "a word, and one that is too long", ends)
}

func TestP8GraphsOfTooManyWords(t *testing.T) {
	wantText(t, strings.Split("ABCDEFGHIJKLMNOPQRSTUVWXYZ[\\]^_`abcdefgh", ""), "gloss 2\n"+fan(maxWords, 1)+"!\n")
	for n := maxWords + 1; n < 100; n++ {
		wantNoData(t, "a word of one rune too many", "gloss 2\n"+fan(n, 1)+"!\n")
	}
	wantText(t, product("ABCD", "ABCDEFGHIJ"), "gloss 3\n"+fan(4, 1)+fan(10, 2)+"!\n")
	wantNoData(t, "41 words", "gloss 3\n"+fan(4, 1)+strings.Replace(fan(10, 2), ".", "!", 1)+"!\n")
	wantNoData(t, "42 words", "gloss 3\n"+fan(6, 1)+fan(7, 2)+"!\n")
	wantNoData(t, "as many words as a text can tell by one rune", "gloss 2\n"+fan(2000, 1)+"!\n")
}

// Graphs of more ways than can be gone through: the test would not end.
func TestP8GraphsOfManyWays(t *testing.T) {
	for _, levels := range []int{1, 2, 5, maxRunes - 2, maxRunes - 1, maxRunes, maxRunes + 1, 2 * maxRunes} {
		fans, sames := "", ""
		for i := range levels {
			fans += fan(100, i+1)
			sames += "." + strings.Repeat(fmt.Sprintf(" a%d", i+1), 100) + "\n"
		}
		for _, c := range []struct{ what, last string }{
			{"words", "!\n"},
			{"no end", ".\n"},
			{"back to the first one", fan(100, 0)},
			{"back to itself", fan(100, levels)},
			{"to no state", fan(100, levels+1)},
			{"a rune that stands in no word", fmt.Sprintf(". \x01%d\n!\n", levels+1)},
		} {
			states := levels + strings.Count(c.last, "\n")
			wantNoData(t, c.what, fmt.Sprintf("gloss %d\n%s%s", states, fans, c.last))
			wantNoData(t, c.what+", the same rune each time", fmt.Sprintf("gloss %d\n%s%s", states, sames, c.last))
		}
	}
}

// texts are texts of lexicons, to be changed a little.
func texts() []string {
	var all []string
	for _, words := range [][]string{nil, {"a"}, {"tap", "taps", "top", "tops"}, {"1", "12", "21", "2"}, {"é", "éa", "日"}, {"!", "0.", ".0"}, {"cat", "act", "cats", "dog"}, {"abcdefghij"}} {
		_, text := graphBySaying(words)
		all = append(all, text)
	}
	return all
}

func TestP8TextsThatAreCutOff(t *testing.T) {
	for _, text := range append(texts(), build(t, alone(maxWords)...).Encode()) {
		for n := range len(text) {
			wantNoData(t, "cut off behind", text[:n])
			if n > 0 {
				wantNoData(t, "cut off ahead", text[n:])
			}
		}
	}
}

func TestP8TextsThatAreChangedByABit(t *testing.T) {
	pieces := []string{" ", "\n", "!", ".", "-", "+", "0", "1", "2", "3", "5", "9", "a", "s", "t", "é", "\x00", "\t", "\xff", "\xc3", " a1", ".\n", "!\n"}
	for _, text := range texts() {
		for n := range len(text) + 1 {
			for _, piece := range pieces {
				wantJust(t, "a piece more", text[:n]+piece+text[n:])
				if n < len(text) {
					wantJust(t, "another piece", text[:n]+piece+text[n+1:])
				}
			}
			for size := 1; n+size <= len(text) && size <= 4; size++ {
				wantJust(t, "a piece less", text[:n]+text[n+size:])
				wantJust(t, "a piece twice", text[:n+size]+text[n:])
			}
		}
	}
}

func TestP8LinesMoreOrLess(t *testing.T) {
	for _, text := range texts() {
		lines := strings.SplitAfter(text, "\n")
		lines = lines[:len(lines)-1]
		for i, line := range lines {
			wantNoData(t, "a line less", strings.Join(slices.Delete(slices.Clone(lines), i, i+1), ""))
			wantNoData(t, "a line twice", strings.Join(slices.Insert(slices.Clone(lines), i, line), ""))
			for j := range i {
				changed := slices.Clone(lines)
				changed[i], changed[j] = changed[j], changed[i]
				if lines[i] != lines[j] {
					wantJust(t, "two lines exchanged", strings.Join(changed, ""))
				}
			}
		}
	}
}

// renumbered is the text of the graph of tap, taps, top and tops, whose states
// have other numbers.
func renumbered(numbers []string) string {
	lines := make([]string, 5)
	for i, line := range []string{". t" + numbers[1], ". a" + numbers[2] + " o" + numbers[2], ". p" + numbers[3], "! s" + numbers[4], "!"} {
		lines[numbers[i][0]-'0'] = line
	}
	return "gloss 5\n" + strings.Join(lines, "\n") + "\n"
}

func TestP8StatesNumberedInAnotherWay(t *testing.T) {
	own := []string{"0", "1", "2", "3", "4"}
	if got := renumbered(own); got != topsText {
		t.Fatalf("the test's own text is wrong: %q", got)
	}
	orders(slices.Clone(own), 0, func(numbers []string) {
		if !slices.Equal(numbers, own) {
			wantNoData(t, "numbered in another way", renumbered(numbers))
		}
	})
}

// allLines are all lines of a state that may lead to n states by a and by b.
func allLines(n int) []string {
	var all []string
	for _, mark := range []string{".", "!"} {
		for a := -1; a < n; a++ {
			for b := -1; b < n; b++ {
				line := mark
				if a >= 0 {
					line += fmt.Sprintf(" a%d", a)
				}
				if b >= 0 {
					line += fmt.Sprintf(" b%d", b)
				}
				all = append(all, line+"\n")
			}
		}
	}
	return all
}

// Of all graphs of up to three states those of words are read, and no other.
func TestP8AllSmallGraphs(t *testing.T) {
	words := map[string][]string{}
	subsets(allWords("ab", 2), func(chosen []string) {
		_, text := graphBySaying(chosen)
		words[text] = chosen
	})
	read := 0
	for n := 1; n <= 3; n++ {
		graphs := []string{fmt.Sprintf("gloss %d\n", n)}
		for range n {
			var longer []string
			for _, graph := range graphs {
				for _, line := range allLines(n) {
					longer = append(longer, graph+line)
				}
			}
			graphs = longer
		}
		for _, text := range graphs {
			chosen, some := words[text]
			if !some {
				wantNoData(t, "no graph of words", text)
				continue
			}
			read++
			wantText(t, chosen, text)
		}
	}
	if read < 20 {
		t.Errorf("%d graphs were read, which are too few for a test", read)
	}
}
