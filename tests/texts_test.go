package tests

import (
	"regexp"
	"strings"

	"loop.example/braille/impl"
)

// runsAndOthers finds the runs of letters of a text, and all other characters
// one by one.
var runsAndOthers = regexp.MustCompile(`[A-Za-z]+|[^A-Za-z]`)

// wholeWord finds words that can be contracted.
var wholeWord = regexp.MustCompile(`^[a-z]{1,16}$`)

// noTexts are texts that are not valid.
var noTexts = []string{"_", "a_b", "the\n", "\x00", "é", "\xff", "the the \"", "(the)", strings.Repeat("a", 61), strings.Repeat("the ", 15) + "a", strings.Repeat(" ", 61), strings.Repeat("1", 100000)}

// longestWord is a word of as many letters as there can be, which begins with a
// letter that is like a digit.
const longestWord = "andtheandtheanda"

// texts returns valid texts: all short ones of the characters that matter to
// each other, and many of words, capital letters, digits, spaces and marks.
func texts() []string {
	all := textsOf("abkAB1. ", 3)
	all = append(all,
		longestWord, longestWord+"b", longestWord+" b", " "+longestWord+".", "1"+longestWord, longestWord+"1", "A"+longestWord, longestWord+"A", longestWord+"-"+longestWord,
		strings.ToUpper(longestWord), strings.ToUpper(longestWord)+"the", strings.Repeat("the", 20), strings.Repeat("the ", 15), strings.Repeat("a1", 30), strings.Repeat(" ", 60), strings.Repeat("THE ", 15),
	)
	parts := append(shortWords(), "A", "B", "The", "AB", "NATO", "McD", "1", "2", "26", "3", ".", ",", "'", "-", "?", "?!", longestWord, longestWord+"b")
	seq := sequence{13}
	for i := 0; i < 500; i++ {
		text := ""
		for many := 1 + seq.next(12); many > 0; many-- {
			next := parts[seq.next(len(parts))]
			if seq.next(2) == 0 {
				next = " " + next
			}
			if len(text)+len(next) <= 60 {
				text += next
			}
		}
		all = append(all, text)
	}
	return all
}

// eachText calls a function for all tables with all texts.
func eachText(f func(table []impl.Rule, text string)) {
	all := texts()
	for _, table := range tables() {
		for _, text := range all {
			f(table, text)
		}
	}
}

// shown is a text in cells: the cells, what characters they show, and the words
// that are contracted.
type shown struct {
	cells  []int
	places []int
	words  []string
}

// showText returns a valid text in cells.
func showText(table []impl.Rule, text string) shown {
	var s shown
	for _, span := range runsAndOthers.FindAllStringIndex(text, -1) {
		from, to := span[0], span[1]
		part, before := text[from:to], text[:from]
		if wholeWord.MatchString(part) && (before == "" || !strings.Contains(digits, before[from-1:])) {
			s = showWord(table, s, part, from)
			continue
		}
		cells := impl.PlainCells(text[:to])[len(impl.PlainCells(before)):]
		s.cells = append(s.cells, cells...)
		s.places = append(s.places, placesBackwards(cells, to)...)
	}
	return s
}

// showWord adds a word that is contracted to a text in cells.
func showWord(table []impl.Rule, s shown, word string, from int) shown {
	pieces := impl.BestPieces(table, word)
	s.words = append(s.words, word)
	s.cells = append(s.cells, cellsOfPieces(table, word, pieces)...)
	for _, piece := range pieces {
		many := 1
		if piece.Rule >= 0 {
			many = len(table[piece.Rule].Cells)
		}
		s.places = append(s.places, filled(many, from+piece.From)...)
	}
	return s
}

// placesBackwards returns what characters plain cells show, told from the last
// one on, which ends before an index.
func placesBackwards(cells []int, to int) []int {
	var places []int
	for i := len(cells) - 1; i >= 0; i-- {
		if count(signs(), cells[i]) == 0 {
			to--
		}
		places = append(places, to)
	}
	return reversed(places)
}

// safety knows which words are read back by a table.
type safety struct {
	table []impl.Rule
	known map[string]bool
}

// newSafety returns the safety by a table.
func newSafety(table []impl.Rule) safety {
	return safety{table, map[string]bool{}}
}

// allSafe reports whether all words have at most six cells, and are the only
// ones of their homographs.
func (s safety) allSafe(words []string) bool {
	for _, word := range words {
		safe, found := s.known[word]
		if !found {
			safe = len(impl.WordCells(s.table, word)) <= 6 && sameTexts(impl.Homographs(s.table, word), []string{word})
			s.known[word] = safe
		}
		if !safe {
			return false
		}
	}
	return true
}

// changedCells returns lists that differ in little from the cells of a text.
func changedCells(seq *sequence, cells []int) [][]int {
	at := seq.next(len(cells))
	sign := signs()[seq.next(3)]
	return [][]int{
		joined(cells[:at], cells[at+1:]),
		joined(cells[:at], []int{sign}, cells[at:]),
		joined(cells[:at], []int{0}, cells[at:]),
		joined(cells[:at], []int{seq.next(64)}, cells[at+1:]),
		joined(cells[:at], []int{[]int{1, 3, 9, 46, 47}[seq.next(5)]}, cells[at+1:]),
		joined(cells, []int{sign}),
		joined([]int{sign}, cells),
		reversed(cells),
	}
}
