package gloss

import (
	"maps"
	"slices"
	"strconv"
	"strings"
	"unicode/utf8"
)

// What a lexicon's text is made of (P8).
const (
	head    = "gloss"
	ending  = "!" // of a state at which a word may end
	passing = "." // of any other one
	blank   = " "
	newline = "\n"
)

// graph is states by their numbers; the first one stands for all words.
type graph []state

// state has its arrows by their runes, rising.
type state struct {
	ends   bool
	arrows []arrow
}

type arrow struct {
	by rune
	to int
}

// numbering numbers the states as they come (P7).
type numbering struct {
	numbers map[string]int // by the words that follow, which are all that tells states apart
	follow  [][]string     // by number: the words that follow, rising
}

// graph makes the graph of the words. The states that are met on the way are
// gone through later, so that their numbers are those of P7.
func (s wordSet) graph() graph {
	met := numbering{numbers: map[string]int{}}
	met.number(s.rising())
	var g graph
	for n := 0; n < len(met.follow); n++ {
		g = append(g, met.state(met.follow[n]))
	}
	return g
}

// number tells the number of the state for these words. A newline stands in no
// word: behind each one it keeps other words from the same key.
func (m *numbering) number(follow []string) int {
	key := ""
	for _, word := range follow {
		key += word + newline
	}
	n, met := m.numbers[key]
	if !met {
		n = len(m.follow)
		m.numbers[key] = n
		m.follow = append(m.follow, follow)
	}
	return n
}

// state makes the state for these words. What follows a rune rises because the
// words do.
func (m *numbering) state(follow []string) state {
	var here state
	behind := map[rune][]string{}
	for _, word := range follow {
		if word == "" {
			here.ends = true
			continue
		}
		first, size := utf8.DecodeRuneInString(word)
		behind[first] = append(behind[first], word[size:])
	}
	for _, first := range slices.Sorted(maps.Keys(behind)) {
		here.arrows = append(here.arrows, arrow{by: first, to: m.number(behind[first])})
	}
	return here
}

// text writes the graph (P8).
func (g graph) text() string {
	var text strings.Builder
	text.WriteString(head + blank + strconv.Itoa(len(g)) + newline)
	for _, here := range g {
		text.WriteString(here.line())
	}
	return text.String()
}

func (s state) line() string {
	line := passing
	if s.ends {
		line = ending
	}
	for _, a := range s.arrows {
		line += blank + string(a.by) + strconv.Itoa(a.to)
	}
	return line + newline
}
