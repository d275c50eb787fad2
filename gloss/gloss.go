// Package gloss keeps words, and finds those that are near: see DOC.md.
package gloss

// maxText is how many bytes a lexicon's text may have.
const maxText = 20000

// Errno is what a call answers: OK or the reason for a refusal.
type Errno int

const (
	OK       Errno = 0
	ErrLong  Errno = 1 // above a bound
	ErrForm  Errno = 2 // no word
	ErrMany  Errno = 3 // too many words
	ErrTwice Errno = 4 // a word that is there already
	ErrNone  Errno = 5 // a word that is not there
	ErrArg   Errno = 6 // a number that may not be
	ErrData  Errno = 7 // no graph
)

// Lexicon is words. Make it by Build, Decode, With or Without.
type Lexicon struct {
	words wordSet
}

// Match is a word, and how far it is.
type Match struct {
	Word string
	Far  int
}

// Build makes a lexicon of words (P4).
func Build(words ...string) (*Lexicon, Errno, int) {
	none := &Lexicon{}
	return none.With(words...)
}

// Decode reads a lexicon's text (P8). What is read is written again and held
// against the text: states that are numbered in another way, there twice or led
// to by nothing, a needless 0 and text that is left over are found so.
func Decode(text string) (l *Lexicon, e Errno) {
	if len(text) > maxText {
		return nil, ErrLong
	}
	defer func() {
		if recover() != nil {
			l, e = nil, ErrData
		}
	}()
	l = &Lexicon{words: readGraph(text).words()}
	if l.Encode() != text {
		giveUp()
	}
	return l, OK
}

// With makes a lexicon that has more words (P4).
func (l *Lexicon) With(words ...string) (*Lexicon, Errno, int) {
	next := l.words.copied()
	e, at := tryEach(words, next.come)
	return settled(next, e, at)
}

// Without makes a lexicon that has fewer words (P4).
func (l *Lexicon) Without(words ...string) (*Lexicon, Errno, int) {
	next := l.words.copied()
	e, at := tryEach(words, next.leave)
	return settled(next, e, at)
}

// settled drops the words of a try that failed, so that nothing of it is seen.
func settled(words wordSet, e Errno, at int) (*Lexicon, Errno, int) {
	if e != OK {
		return nil, e, at
	}
	return &Lexicon{words: words}, OK, 0
}

// Words tells how many there are (P5).
func (l *Lexicon) Words() int { return len(l.words) }

// Rank tells which word it is (P5).
func (l *Lexicon) Rank(word string) (int, Errno) {
	if !l.words.has(word) {
		return 0, ErrNone
	}
	return l.words.below(word), OK
}

// At tells the word of a rank (P5).
func (l *Lexicon) At(rank int) (string, Errno) {
	if rank < 0 || rank >= len(l.words) {
		return "", ErrNone
	}
	return l.words.copied().rising()[rank], OK
}

// Prefix tells the words that begin so (P5).
func (l *Lexicon) Prefix(prefix string) []string {
	return l.words.beginning(prefix).rising()
}

// Near tells the words that are near (P6).
func (l *Lexicon) Near(word string, far int, most int) ([]Match, Errno) {
	if e := wrongWith(word); e != OK {
		return nil, e
	}
	if far < 0 || far > maxNear || most < 0 {
		return nil, ErrArg
	}
	return nearest(l.words.within(word, far), most), OK
}

// States tells how many the graph has (P7).
func (l *Lexicon) States() int { return len(l.words.graph()) }

// Encode writes the graph (P8).
func (l *Lexicon) Encode() string { return l.words.graph().text() }
