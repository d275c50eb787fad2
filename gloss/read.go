package gloss

import (
	"strconv"
	"strings"
	"unicode/utf8"
)

// giveUp leaves off reading a text that is no lexicon's, from however deep
// within: Decode catches it.
func giveUp() {
	panic(ErrData)
}

// part is a part of a line of a lexicon's text. Each one that was read tells
// the next one.
type part int

const (
	headPart  part = iota
	countPart      // how many states there are
	markPart       // whether a word may end at a state
	runePart       // by which an arrow leads
	toPart         // the number of the state to which it leads
	endPart        // of the line
	noPart         // nothing is next
)

// reader is what is left of a text, and what was read of it.
type reader struct {
	left   string
	count  int
	by     rune
	states graph
}

// readGraph reads the graph that a text tells, so far as it makes sense. That
// it is the graph of its words, and written as it must be, is left to Decode.
func readGraph(text string) graph {
	r := reader{left: text}
	for next := headPart; next != noPart; {
		next = r.read(next)
	}
	return r.states
}

// read reads a part, and tells the next one.
func (r *reader) read(here part) part {
	switch here {
	case headPart:
		r.take(head)
		return countPart
	case countPart:
		r.take(blank)
		r.count = r.takeNumber()
		return endPart
	case markPart:
		r.states = append(r.states, state{ends: r.takeMark()})
		return r.arrowOrEnd()
	case runePart:
		r.take(blank)
		r.by = r.takeRune()
		return toPart
	case toPart:
		last := &r.states[len(r.states)-1]
		last.arrows = append(last.arrows, arrow{by: r.by, to: r.takeNumber()})
		return r.arrowOrEnd()
	}
	r.take(newline)
	if len(r.states) == r.count {
		return noPart
	}
	return markPart
}

func (r *reader) arrowOrEnd() part {
	if strings.HasPrefix(r.left, blank) {
		return runePart
	}
	return endPart
}

func (r *reader) take(piece string) {
	left, there := strings.CutPrefix(r.left, piece)
	if !there {
		giveUp()
	}
	r.left = left
}

func (r *reader) takeMark() bool {
	if strings.HasPrefix(r.left, ending) {
		r.take(ending)
		return true
	}
	r.take(passing)
	return false
}

// takeRune tells a byte that is not UTF-8 from the rune that stands for such
// ones, which may well be in a word, by its size.
func (r *reader) takeRune() rune {
	first, size := utf8.DecodeRuneInString(r.left)
	if first == utf8.RuneError && size <= 1 {
		giveUp()
	}
	r.left = r.left[size:]
	return first
}

// takeNumber takes all digits that are there: a rune that is a digit stands
// ahead of a number alone, never behind it.
func (r *reader) takeNumber() int {
	left := strings.TrimLeft(r.left, "0123456789")
	n, err := strconv.Atoi(r.left[:len(r.left)-len(left)])
	if err != nil {
		giveUp()
	}
	r.left = left
	return n
}

// words goes through a graph that was read, and gathers its words.
func (g graph) words() wordSet {
	words := wordSet{}
	g.tryFrom(g.state(0), "", words.come)
	return words
}

// tryFrom tries the words of a state, behind what leads there. It ends whatever
// the graph is: on each way there is a word before long, or it gives up; and
// too many words are given up as well.
func (g graph) tryFrom(here state, word string, try func(word string) Errno) {
	if here.ends && try(word) != OK {
		giveUp()
	}
	for _, a := range here.arrows {
		next, longer := g.state(a.to), word+string(a.by)
		if next.leadsNowhere() || utf8.RuneCountInString(longer) > maxRunes {
			giveUp()
		}
		g.tryFrom(next, longer, try)
	}
}

// state is the state of a number that was read, and may be too great.
func (g graph) state(n int) state {
	if n >= len(g) {
		giveUp()
	}
	return g[n]
}

func (s state) leadsNowhere() bool {
	return !s.ends && len(s.arrows) == 0
}
