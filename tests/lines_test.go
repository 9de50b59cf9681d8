package tests

import (
	"fmt"
	"strings"
	"testing"

	"loop.example/braille/impl"
)

// wantLists fails the test if lists of cells are not as they must be.
func wantLists(t *testing.T, call string, got, want [][]int) {
	t.Helper()
	if fmt.Sprint(got) != fmt.Sprint(want) {
		t.Errorf("%s = %v, want %v", call, got, want)
	}
}

// fillCapacity changes all that a slice has, its spare capacity as well.
func fillCapacity(list []int) {
	list = list[:cap(list)]
	for i := range list {
		list[i] = -7
	}
}

// wantApart fails the test if two lists of a result share memory. The result
// is of no use any more afterwards.
func wantApart(t *testing.T, call string, lists [][]int) {
	t.Helper()
	for i := range lists {
		others := fmt.Sprint(lists[:i], lists[i+1:])
		fillCapacity(lists[i])
		if fmt.Sprint(lists[:i], lists[i+1:]) != others {
			t.Errorf("%s shares the memory of the list %d", call, i)
		}
	}
}

// runs returns a word of many equal cells for each letter: a is one of 1, bb is
// two of 2, and so on. A full stop is a space, and a hyphen the cell 36.
func runs(text string) []int {
	var cells []int
	for i := range text {
		switch text[i] {
		case '.':
			cells = append(cells, 0)
		case '-':
			cells = append(cells, 36)
		default:
			cells = append(cells, int(text[i]-'a')+1)
		}
	}
	return cells
}

// manyRuns returns runs of each of the texts that stand between spaces, where _
// stands for no cells.
func manyRuns(text string) [][]int {
	var lists [][]int
	for _, part := range strings.Fields(text) {
		lists = append(lists, runs(strings.ReplaceAll(part, "_", "")))
	}
	return lists
}

// widths are the widths of lines that matter.
var widths = []int{1, 2, 3, 4, 5, 6, 7, 8, 11, 20, 39, 40}

// noWidths are numbers that are no widths of lines.
var noWidths = []int{0, -1, -40, 41, 42, 1 << 32, -1 << 63, 1<<63 - 1}

// randomWords returns at most most words, each of 1..longest cells that are no
// spaces.
func randomWords(seq *sequence, most, longest int) [][]int {
	var list [][]int
	for many := seq.next(most + 1); many > 0; many-- {
		word := make([]int, 1+seq.next(longest))
		for i := range word {
			word[i] = 1 + seq.next(63)
		}
		list = append(list, word)
	}
	return list
}

// wordsOfLengths returns all lists of at most many words of 1..longest cells.
func wordsOfLengths(many, longest int) [][][]int {
	lists := [][][]int{nil}
	for n := 0; len(lists[n]) < many; n++ {
		for length := 1; length <= longest; length++ {
			word := filled(length, 1+len(lists[n]))
			lists = append(lists, append(append([][]int{}, lists[n]...), word))
		}
	}
	return lists
}

// eachFill calls a function for words that can be put on lines of a width.
func eachFill(f func(words [][]int, width int)) {
	seq := sequence{22}
	for _, width := range widths {
		f(nil, width)
		for _, list := range wordsOfLengths(5, min(width, 3)) {
			f(list, width)
		}
		for i := 0; i < 60; i++ {
			f(randomWords(&seq, impl.MaxItems, width), width)
			f(randomWords(&seq, impl.MaxItems, 1+width/2), width)
			f(randomWords(&seq, impl.MaxItems, 1+width/5), width)
		}
		for _, length := range []int{1, width/2 + 1, width} {
			var list [][]int
			for len(list) < impl.MaxItems {
				list = append(list, filled(length, 63))
			}
			f(list, width)
		}
	}
}

// waysToFill returns all ways to put words on lines, those with more words on
// the first line first, of these those with more words on the second line, and
// so on.
func waysToFill(words [][]int, width int) [][][]int {
	if len(words) == 0 {
		return [][][]int{nil}
	}
	var ways [][][]int
	for many := len(words); many > 0; many-- {
		line := words[0]
		for _, word := range words[1:many] {
			line = joined(line, []int{0}, word)
		}
		if len(line) > width {
			continue
		}
		for _, others := range waysToFill(words[many:], width) {
			ways = append(ways, append([][]int{line}, others...))
		}
	}
	return ways
}

// costOf returns the cost of lines.
func costOf(lines [][]int, width int) int {
	cost := 0
	for i, line := range lines {
		if free := width - len(line); i+1 < len(lines) {
			cost += free * free
		}
	}
	return cost
}

// cheapest returns the first one of some ways with the least cost.
func cheapest(ways [][][]int, width int) [][]int {
	best := ways[0]
	for _, way := range ways {
		if costOf(way, width) < costOf(best, width) {
			best = way
		}
	}
	return best
}

// leastCost returns the least cost of lines of words, found from the first word
// on.
func leastCost(words [][]int, width int) int {
	const none = 1 << 40
	before := filled(len(words)+1, none)
	before[0] = 0
	least := none
	for from := range words {
		length := -1
		for to := from + 1; to <= len(words); to++ {
			if length += 1 + len(words[to-1]); length > width {
				break
			}
			before[to] = min(before[to], before[from]+(width-length)*(width-length))
			if to == len(words) {
				least = min(least, before[from])
			}
		}
	}
	if len(words) == 0 {
		return 0
	}
	return least
}

// lineLists returns at most 30 lines of a width, with spaces anywhere.
func lineLists(width int) [][][]int {
	var found [][][]int
	for _, some := range []int{1, 2, impl.MaxItems} {
		found = append(found, make([][]int, some))
		var spaces, full [][]int
		for range some {
			spaces, full = append(spaces, filled(width, 0)), append(full, filled(width, 63))
		}
		found = append(found, spaces, full)
	}
	seq := sequence{23}
	for i := 0; i < 200; i++ {
		lines := make([][]int, seq.next(impl.MaxItems+1))
		for n := range lines {
			lines[n] = make([]int, seq.next(width+1))
			for k := range lines[n] {
				if seq.next(1+i%4) == 0 {
					lines[n][k] = seq.next(64)
				}
			}
		}
		found = append(found, lines)
	}
	return found
}

// eachLines calls a function for lines of all widths.
func eachLines(f func(lines [][]int, width int)) {
	for _, width := range widths {
		f(nil, width)
		for _, lines := range lineLists(width) {
			f(lines, width)
		}
	}
}

// textOfLines returns lines as text: a character for each cell, a space for the
// cell 0, and a newline behind each line.
func textOfLines(lines [][]int) string {
	var text strings.Builder
	for _, line := range lines {
		for _, cell := range line {
			text.WriteByte(byte(' ' + cell))
		}
		text.WriteByte('\n')
	}
	return text.String()
}

// cellsOfWords returns the cells of the words of a text as by textOfLines.
func cellsOfWords(text string) [][]int {
	var lists [][]int
	for _, word := range strings.FieldsFunc(text, func(r rune) bool { return r == ' ' || r == '\n' }) {
		var cells []int
		for i := range word {
			cells = append(cells, int(word[i]-' '))
		}
		lists = append(lists, cells)
	}
	return lists
}

// otherThanSpaces returns how many cells of lists are no spaces.
func otherThanSpaces(lists [][]int) int {
	many := 0
	for _, list := range lists {
		many += len(list) - count(list, 0)
	}
	return many
}

// wholeWords returns words with the parts of each one after the other.
func wholeWords(words [][][]int) [][]int {
	var whole [][]int
	for _, parts := range words {
		whole = append(whole, joined(parts...))
	}
	return whole
}

// partedRuns returns words with their parts: the words stand between spaces in
// the text, and the parts of each one between hyphens.
func partedRuns(text string) [][][]int {
	var words [][][]int
	for _, word := range strings.Fields(text) {
		words = append(words, manyRuns(strings.ReplaceAll(word, "-", " ")))
	}
	return words
}

// partCell returns a cell that a part of a word may have.
func partCell(seq *sequence) int {
	cell := 1 + seq.next(62)
	if cell >= impl.Hyphen {
		cell++
	}
	return cell
}

// randomParted returns at most most words of at most parts parts, each of
// 1..longest cells.
func randomParted(seq *sequence, most, parts, longest int) [][][]int {
	var words [][][]int
	for many := seq.next(most + 1); many > 0; many-- {
		var word [][]int
		for some := 1 + seq.next(parts); some > 0; some-- {
			part := make([]int, 1+seq.next(longest))
			for i := range part {
				part[i] = partCell(seq)
			}
			word = append(word, part)
		}
		words = append(words, word)
	}
	return words
}

// shortParted returns all lists of at most three words of at most two parts of
// at most two cells.
func shortParted() [][][][]int {
	var one [][][]int
	for _, lengths := range wordsOfLengths(2, 2)[1:] {
		one = append(one, lengths)
	}
	lists := [][][][]int{nil}
	for n := 0; len(lists[n]) < 3; n++ {
		for _, word := range one {
			lists = append(lists, append(append([][][]int{}, lists[n]...), word))
		}
	}
	return lists
}

// eachParted calls a function for words that may be divided between lines of a
// width.
func eachParted(f func(words [][][]int, width int)) {
	short := shortParted()
	for width := 3; width <= 8; width++ {
		for _, words := range short {
			f(words, width)
		}
	}
	seq := sequence{24}
	for _, width := range widths {
		if width < 2 {
			continue
		}
		f(nil, width)
		for i := 0; i < 60; i++ {
			f(randomParted(&seq, impl.MaxItems, 1, width-1), width)
			f(randomParted(&seq, impl.MaxItems, impl.MaxParts, width-1), width)
			f(randomParted(&seq, impl.MaxItems, impl.MaxParts, 1+(width-1)/3), width)
			f(randomParted(&seq, impl.MaxItems, 3, 1+(width-1)/6), width)
		}
	}
}

// noParted returns words that cannot be divided between lines of a width, each
// for one reason alone.
func noParted(width int) [][][][]int {
	part := filled(width-1, 1)
	good := [][]int{part, {63}}
	words := [][][][]int{
		{{}}, {nil}, {good, {}}, {{}, good},
		{{{}}}, {{nil}}, {{part, {}}}, {{{}, part}}, {good, {part, {}, part}},
		{{filled(width, 1)}}, {{part, filled(width, 1)}}, {good, {filled(width, 1), part}}, {{filled(width+1, 1)}}, {{filled(100000, 1)}},
		{{part, part, part, part, part, part, part}}, {good, make([][]int, 100000)},
		make([][][]int, 100000),
	}
	var many [][][]int
	for len(many) <= impl.MaxItems {
		many = append(many, good)
	}
	words = append(words, many, append(many, many...))
	for _, cell := range append([]int{0, impl.Hyphen}, noCells...) {
		bad := append([]int{}, part...)
		bad[len(bad)-1] = cell
		words = append(words, [][][]int{{bad}}, [][][]int{good, {part, bad}}, [][][]int{{bad, part}, good}, [][][]int{{part, {cell}}}, [][][]int{good, {{cell}}, good})
	}
	return words
}

// divided returns the lines of words that may be divided: each word is tried
// with all of its parts, and then with fewer and fewer, and what does not fit is
// a word of its own on the next line.
func divided(words [][][]int, width int) [][]int {
	var lines [][]int
	line := []int(nil)
	for len(words) > 0 {
		parts := words[0]
		before := line
		if len(before) > 0 {
			before = joined(before, []int{0})
		}
		many := len(parts)
		next := joined(before, joined(parts...))
		for len(next) > width {
			many--
			if many == 0 {
				break
			}
			next = joined(before, joined(parts[:many]...), []int{impl.Hyphen})
		}
		switch {
		case many == len(parts):
			line, words = next, words[1:]
		case many == 0:
			lines, line = append(lines, line), nil
		default:
			lines, line = append(lines, next), nil
			words = append([][][]int{parts[many:]}, words[1:]...)
		}
	}
	if len(line) > 0 {
		lines = append(lines, line)
	}
	return lines
}

// joinable reports whether lines can be joined.
func joinable(lines [][]int) bool {
	text := textOfLines(lines)
	return !strings.HasPrefix(text, "\n") && !strings.HasPrefix(text, " ") && !strings.Contains(text, "\n\n") && !strings.Contains(text, "\n ") && !strings.Contains(text, " \n") && !strings.HasSuffix(text, hyphenAtEnd)
}

// hyphenAtEnd is a hyphen at the end of a line as by textOfLines.
const hyphenAtEnd = string(rune(' '+impl.Hyphen)) + "\n"

// joinedWords returns the words of lines that can be joined.
func joinedWords(lines [][]int) [][]int {
	return cellsOfWords(strings.ReplaceAll(textOfLines(lines), hyphenAtEnd, ""))
}

// longLines returns lines of a number of cells that can be joined, with words
// that go on and words that do not.
func longLines() [][][]int {
	var all [][][]int
	seq := sequence{25}
	for i := 0; i < 300; i++ {
		lines := make([][]int, seq.next(impl.MaxLines+1))
		for n := range lines {
			lines[n] = make([]int, 1+seq.next(impl.MaxWidth))
			for k := range lines[n] {
				switch {
				case k > 0 && seq.next(4) == 0:
					lines[n][k] = 0
				case seq.next(4) == 0:
					lines[n][k] = impl.Hyphen
				default:
					lines[n][k] = 1 + seq.next(63)
				}
			}
			lines[n][len(lines[n])-1] = 1 + seq.next(63)
			if seq.next(2) == 0 && n+1 < len(lines) {
				lines[n][len(lines[n])-1] = impl.Hyphen
			}
			if n+1 == len(lines) {
				lines[n][len(lines[n])-1] = 7
			}
		}
		all = append(all, lines)
	}
	return all
}
