package tests

import (
	"fmt"
	"sort"
	"strings"

	"loop.example/braille/impl"
)

// places are all places of a rule.
var places = []int{impl.PlAny, impl.PlWord, impl.PlBegin, impl.PlMiddle, impl.PlEnd}

// noWords are texts that are no words of 1..16 letters from a to z.
var noWords = []string{"", "A", "aB", "Ab", "a b", " a", "a ", "a1", "1", "a-b", "'", "a\n", "a\x00", "\xe9", "é", "a`", "a{", strings.Repeat("a", 17), strings.Repeat("a", 100000)}

// rule returns a rule.
func rule(text string, place int, cells ...int) impl.Rule {
	return impl.Rule{Text: text, Cells: cells, Place: place}
}

// english returns contractions of English words.
func english() []impl.Rule {
	return []impl.Rule{
		rule("the", impl.PlAny, 46), rule("and", impl.PlAny, 47), rule("th", impl.PlAny, 57), rule("ing", impl.PlEnd, 44),
		rule("but", impl.PlWord, 3), rule("er", impl.PlAny, 59), rule("en", impl.PlAny, 34), rule("ance", impl.PlEnd, 40, 17),
		rule("con", impl.PlBegin, 33), rule("ea", impl.PlMiddle, 8),
	}
}

// samePlaces returns rules with the same text in all places, the special places
// before and behind the one that overlaps them all.
func samePlaces() []impl.Rule {
	return []impl.Rule{
		rule("ab", impl.PlWord, 46), rule("ab", impl.PlBegin, 47), rule("ab", impl.PlAny, 44), rule("ab", impl.PlMiddle, 57), rule("ab", impl.PlEnd, 59),
		rule("b", impl.PlAny, 34, 34), rule("b", impl.PlEnd, 40), rule("b", impl.PlWord, 9),
	}
}

// oneLetter returns rules of one letter: with one cell or two, before and
// behind each other, and with the cells of letters.
func oneLetter() []impl.Rule {
	return []impl.Rule{
		rule("a", impl.PlAny, 46, 47), rule("a", impl.PlBegin, 44),
		rule("b", impl.PlMiddle, 3), rule("b", impl.PlAny, 9),
		rule("c", impl.PlEnd, 1), rule("d", impl.PlAny, 25), rule("ab", impl.PlAny, 1, 3), rule("bc", impl.PlAny, 63),
	}
}

// overlapping returns rules that overlap in words, and where the longest one is
// not always the best one.
func overlapping() []impl.Rule {
	return []impl.Rule{
		rule("ab", impl.PlAny, 46), rule("bcd", impl.PlAny, 47), rule("bc", impl.PlAny, 44), rule("abc", impl.PlAny, 57, 57),
		rule("cab", impl.PlAny, 59), rule("aa", impl.PlAny, 34), rule("aaa", impl.PlAny, 40, 34), rule("aaaaa", impl.PlAny, 34, 40),
	}
}

// lookalikes returns rules that have the cells of each other and of letters.
func lookalikes() []impl.Rule {
	return []impl.Rule{
		rule("ab", impl.PlAny, 1), rule("ba", impl.PlAny, 1), rule("b", impl.PlAny, 1), rule("c", impl.PlAny, 3, 1),
		rule("ca", impl.PlEnd, 3), rule("cc", impl.PlBegin, 9), rule("aa", impl.PlWord, 9), rule("bb", impl.PlMiddle, 3, 9),
	}
}

// fullTable returns a table with as many rules as there can be, all of the
// greatest length.
func fullTable() []impl.Rule {
	var table []impl.Rule
	for i := 0; i < impl.MaxRules; i++ {
		table = append(table, rule("aaaaa"+smallLetters[i:i+1], impl.PlAny, 46, 47))
	}
	return table
}

// randomTable returns a valid table of rules with at most longest of the first
// letters, many of which have the same cells.
func randomTable(seq *sequence, longest int) []impl.Rule {
	cells := []int{1, 3, 9, 46, 47}
	var table []impl.Rule
	for many := seq.next(impl.MaxRules + 1); len(table) < many; {
		text := ""
		for letters := 1 + seq.next(longest); len(text) < letters; {
			i := seq.next(3)
			text += smallLetters[i : i+1]
		}
		r := rule(text, places[seq.next(5)], cells[seq.next(5)])
		if seq.next(3) == 0 {
			r.Cells = append(r.Cells, cells[seq.next(5)])
		}
		if !hasRule(table, r) {
			table = append(table, r)
		} else {
			many--
		}
	}
	return table
}

// hasRule reports whether a rule with the same text and place is in the table.
func hasRule(table []impl.Rule, r impl.Rule) bool {
	for _, other := range table {
		if other.Text == r.Text && other.Place == r.Place {
			return true
		}
	}
	return false
}

// madeTables returns the tables that are made for what matters.
func madeTables() [][]impl.Rule {
	return [][]impl.Rule{nil, english(), samePlaces(), oneLetter(), overlapping(), lookalikes(), fullTable()}
}

// tables returns valid tables.
func tables() [][]impl.Rule {
	all := madeTables()
	seq := sequence{4}
	for i := 0; i < 40; i++ {
		all = append(all, randomTable(&seq, 1+i%4))
	}
	return all
}

// smallTables returns valid tables with texts of at most two of the letters a
// to c, so that all words of some cells can be tried.
func smallTables() [][]impl.Rule {
	all := [][]impl.Rule{nil, samePlaces(), lookalikes()}
	seq := sequence{5}
	for i := 0; i < 30; i++ {
		all = append(all, randomTable(&seq, 1+i%2))
	}
	return all
}

// noTables returns tables that are not valid, each for one reason alone.
func noTables() [][]impl.Rule {
	first := rule("the", impl.PlAny, 46)
	tables := [][]impl.Rule{
		{rule("", impl.PlAny, 46)},
		{rule("abcdefg", impl.PlAny, 46)},
		{rule("st", impl.PlAny)},
		{rule("st", impl.PlAny, 12, 12, 12)},
		{rule("st", -1, 12)},
		{rule("st", 5, 12)},
		{rule("st", 1<<32, 12)},
		{first, rule("the", impl.PlAny, 12)},
		{first, rule("st", impl.PlAny, 12), first},
		{rule("the", impl.PlEnd, 46), first, rule("the", impl.PlEnd, 12)},
		append(fullTable(), rule("b", impl.PlAny, 46)),
		append([]impl.Rule{first}, fullTable()...),
	}
	for _, c := range []string{"A", "The", "tHe", "t e", "t-", "1", "t1", "é", "\x00", "a`", "a{", "'s"} {
		tables = append(tables, []impl.Rule{first, rule(c, impl.PlAny, 12)})
	}
	for _, cell := range forbiddenCells() {
		tables = append(tables, []impl.Rule{first, rule("st", impl.PlAny, cell)})
		tables = append(tables, []impl.Rule{rule("st", impl.PlAny, 12, cell), first})
	}
	return tables
}

// forbiddenCells returns the numbers that no rule has as a cell.
func forbiddenCells() []int {
	list := append([]int{0}, noCells...)
	for _, dots := range markDots {
		list = append(list, cellOfDots(dots))
	}
	list = append(list, signs()...)
	sort.Ints(list)
	return list
}

// without returns the table without one of its rules, in new memory.
func without(table []impl.Rule, i int) []impl.Rule {
	return append(append([]impl.Rule{}, table[:i]...), table[i+1:]...)
}

// shortWords returns words of few letters, which can be divided into pieces in
// not too many ways.
func shortWords() []string {
	words := textsOf("abc", 4)[1:]
	words = append(words, strings.Fields("d the then thing other thther ing but butter dance ance hand candle near ea tea contain con ten enter abcd bcdab abab cabcd aaaaa aaaaaa aaaaab ababab")...)
	return words
}

// words returns words, of as many letters as there can be as well.
func words() []string {
	all := shortWords()
	for _, part := range []string{"a", "ab", "abcd", "cab", "the", "bba"} {
		all = append(all, strings.Repeat(part, 16)[:16])
	}
	seq := sequence{6}
	for i := 0; i < 40; i++ {
		word := make([]byte, 1+seq.next(16))
		for j := range word {
			word[j] = smallLetters[seq.next(3)]
		}
		all = append(all, string(word))
	}
	return all
}

// inPlace reports, by the letters before and behind, whether a part of a word
// is in a place.
func inPlace(place int, before, behind string) bool {
	switch place {
	case impl.PlAny:
		return true
	case impl.PlWord:
		return before+behind == ""
	case impl.PlBegin:
		return before == "" && behind != ""
	case impl.PlMiddle:
		return before != "" && behind != ""
	case impl.PlEnd:
		return before != "" && behind == ""
	}
	return false
}

// applies reports whether a rule applies to a word at the index of a letter.
func applies(r impl.Rule, word string, at int) bool {
	return strings.HasPrefix(word[at:], r.Text) && inPlace(r.Place, word[:at], word[at:][len(r.Text):])
}

// piecesFrom returns all ways to divide a word from an index on, the ones with
// the longer first piece first, of these the ones with the first rule, and
// those with a letter alone last of all.
func piecesFrom(table []impl.Rule, word string, at int) [][]impl.Piece {
	if at == len(word) {
		return [][]impl.Piece{nil}
	}
	var firsts []impl.Piece
	for i, r := range table {
		if applies(r, word, at) {
			firsts = append(firsts, impl.Piece{Rule: i, From: at, To: at + len(r.Text)})
		}
	}
	sort.SliceStable(firsts, func(i, j int) bool { return firsts[i].To > firsts[j].To })
	firsts = append(firsts, impl.Piece{Rule: -1, From: at, To: at + 1})
	var ways [][]impl.Piece
	for _, first := range firsts {
		for _, others := range piecesFrom(table, word, first.To) {
			ways = append(ways, append([]impl.Piece{first}, others...))
		}
	}
	return ways
}

// cellsOfPieces returns the cells of pieces of a word.
func cellsOfPieces(table []impl.Rule, word string, pieces []impl.Piece) []int {
	var cells []int
	for _, piece := range pieces {
		if piece.Rule < 0 {
			cells = append(cells, cellOfDots(letterDots[word[piece.From]-'a']))
		} else {
			cells = append(cells, table[piece.Rule].Cells...)
		}
	}
	return cells
}

// samePieces reports whether two lists have the same pieces.
func samePieces(a, b []impl.Piece) bool {
	return fmt.Sprint(a) == fmt.Sprint(b)
}

// sameTexts reports whether two lists have the same texts.
func sameTexts(a, b []string) bool {
	return fmt.Sprintf("%q", a) == fmt.Sprintf("%q", b)
}

// eachWord calls a function for all tables with all words.
func eachWord(f func(table []impl.Rule, word string)) {
	all := words()
	for _, table := range tables() {
		for _, word := range all {
			f(table, word)
		}
	}
}

// eachShortWord calls a function for all tables with short words, and all ways
// to divide them into pieces.
func eachShortWord(f func(table []impl.Rule, word string, ways [][]impl.Piece)) {
	all := shortWords()
	for _, table := range tables() {
		for _, word := range all {
			f(table, word, piecesFrom(table, word, 0))
		}
	}
}
