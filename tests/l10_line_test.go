package tests

import (
	"fmt"
	"testing"

	"loop.example/braille/impl"
)

// linesOfWords are words with the full lines and the best lines of a width, and
// what these cost, all told as by manyRuns.
var linesOfWords = []struct {
	words string
	width int
	full  string
	cost  int
	best  string
	least int
}{
	{"", 1, "", 0, "", 0},
	{"", 40, "", 0, "", 0},
	{"a", 1, "a", 0, "a", 0},
	{"a b c", 1, "a b c", 0, "a b c", 0},
	{"a b c", 2, "a b c", 2, "a b c", 2},
	{"a b c", 3, "a.b c", 0, "a.b c", 0},
	{"a b c", 5, "a.b.c", 0, "a.b.c", 0},
	{"a b c", 4, "a.b c", 1, "a.b c", 1},
	{"aa bbb c dd", 6, "aa.bbb c.dd", 0, "aa.bbb c.dd", 0},
	{"aaa bb cc ddddd", 6, "aaa.bb cc ddddd", 16, "aaa bb.cc ddddd", 10},
	// Words are as wide as the line, or one cell less.
	{"aaaaaa", 6, "aaaaaa", 0, "aaaaaa", 0},
	{"aaaaaa bbbbbb", 6, "aaaaaa bbbbbb", 0, "aaaaaa bbbbbb", 0},
	{"aaaaaa b cccccc", 6, "aaaaaa b cccccc", 25, "aaaaaa b cccccc", 25},
	{"aaaaa b ccccc", 6, "aaaaa b ccccc", 26, "aaaaa b ccccc", 26},
	{"aaaa b cccc", 6, "aaaa.b cccc", 0, "aaaa.b cccc", 0},
	{"aaaa bb cccc", 6, "aaaa bb cccc", 20, "aaaa bb cccc", 20},
	// Of several ways the one with the most words on the first line is the
	// best, and then the one with the most on the second line.
	{"aa bb cc ddddd", 5, "aa.bb cc ddddd", 9, "aa.bb cc ddddd", 9},
	{"aa b cc ddd", 5, "aa.b cc ddd", 10, "aa.b cc ddd", 10},
	{"a b c ddd", 3, "a.b c ddd", 4, "a.b c ddd", 4},
	{"a b c d eee", 3, "a.b c.d eee", 0, "a.b c.d eee", 0},
	{"a b c ddd e f g hhh", 3, "a.b c ddd e.f g hhh", 8, "a.b c ddd e.f g hhh", 8},
	// What is not on the last line must be even.
	{"a b c ddddd", 5, "a.b.c ddddd", 0, "a.b.c ddddd", 0},
	{"aaa bb c dddd", 6, "aaa.bb c.dddd", 0, "aaa.bb c.dddd", 0},
	{"aa bb ccc ddd eeeee f", 7, "aa.bb ccc.ddd eeeee.f", 4, "aa.bb ccc.ddd eeeee.f", 4},
	// The last line is free, however short it is.
	{"aaaaaa b", 6, "aaaaaa b", 0, "aaaaaa b", 0},
	{"aa bb cc", 5, "aa.bb cc", 0, "aa.bb cc", 0},
	{"aa bb cc", 6, "aa.bb cc", 1, "aa.bb cc", 1},
}

func TestLinesOfWords(t *testing.T) {
	for _, c := range linesOfWords {
		words := manyRuns(c.words)
		call := fmt.Sprintf("(%q, %d)", c.words, c.width)
		full, best := impl.FillLines(words, c.width), impl.BestLines(words, c.width)
		wantLists(t, "FillLines"+call, full, manyRuns(c.full))
		wantLists(t, "BestLines"+call, best, manyRuns(c.best))
		if impl.LineCost(full, c.width) != c.cost || impl.LineCost(best, c.width) != c.least {
			t.Errorf("LineCost of FillLines and BestLines%s = %d, %d, want %d, %d", call, impl.LineCost(full, c.width), impl.LineCost(best, c.width), c.cost, c.least)
		}
	}
}

func TestLinesOfFewWords(t *testing.T) {
	differ := 0
	for _, width := range []int{1, 2, 3, 4, 5, 6, 7, 9} {
		for _, words := range wordsOfLengths(6, min(width, 4)) {
			ways := waysToFill(words, width)
			call := fmt.Sprintf("(%v, %d)", words, width)
			wantLists(t, "FillLines"+call, impl.FillLines(words, width), ways[0])
			best := cheapest(ways, width)
			wantLists(t, "BestLines"+call, impl.BestLines(words, width), best)
			if costOf(best, width) < costOf(ways[0], width) {
				differ++
			}
		}
	}
	if differ < 100 {
		t.Errorf("only %d lists of words have better lines than the full ones", differ)
	}
}

func TestBestLinesOfManyWords(t *testing.T) {
	eachFill(func(words [][]int, width int) {
		lines := impl.BestLines(words, width)
		if got, want := costOf(lines, width), leastCost(words, width); got != want {
			t.Errorf("the cost of BestLines(%v, %d) = %d, want %d", words, width, got, want)
		}
		// With more words on the first line, the least cost would be greater.
		if len(lines) == 0 {
			return
		}
		many, length := len(cellsOfWords(textOfLines(lines[:1]))), len(lines[0])
		for next := many; next < len(words); next++ {
			length += 1 + len(words[next])
			if length > width {
				break
			}
			cost := 0
			if next+1 < len(words) {
				cost = (width-length)*(width-length) + leastCost(words[next+1:], width)
			}
			if cost <= costOf(lines, width) {
				t.Errorf("BestLines(%v, %d) = %v, but there can be %d words on the first line", words, width, lines, next+1)
			}
		}
	})
}

func TestLineCost(t *testing.T) {
	for _, c := range []struct {
		lines string
		width int
		want  int
	}{
		{"", 1, 0}, {"_", 1, 0}, {"_", 40, 0}, {"a", 40, 0}, {"_ _", 40, 1600}, {"_ a", 3, 9}, {"a _", 3, 4}, {"aaa _", 3, 0}, {"aaa aaa", 3, 0},
		{"a bb ccc", 3, 5}, {"ccc bb a", 3, 1}, {"... a", 3, 0}, {".. a", 3, 1}, {"a.. ..a .a. .", 3, 0}, {"a. .a . a", 3, 6}, {"- a", 2, 1},
	} {
		if got := impl.LineCost(manyRuns(c.lines), c.width); got != c.want {
			t.Errorf("LineCost(%q, %d) = %d, want %d", c.lines, c.width, got, c.want)
		}
	}
	if got := impl.LineCost(make([][]int, 30), 40); got != 29*1600 {
		t.Errorf("LineCost of 30 lines without cells = %d", got)
	}
	eachLines(func(lines [][]int, width int) {
		if got := impl.LineCost(lines, width); got != costOf(lines, width) {
			t.Errorf("LineCost(%v, %d) = %d, want %d", lines, width, got, costOf(lines, width))
		}
	})
}

func TestWordsOfLines(t *testing.T) {
	for _, c := range []struct {
		lines string
		width int
		want  string
	}{
		{"", 1, ""}, {"_", 1, ""}, {"_ _ _", 1, ""}, {"...", 3, ""}, {". .. ... _ .", 3, ""},
		{"a", 1, "a"}, {"a b", 1, "a b"}, {"a _ b", 1, "a b"}, {"a . b", 1, "a b"},
		{".a..bc. _ d", 8, "a bc d"}, {"aa bb.cc d", 5, "aa bb cc d"}, {".a a.", 2, "a a"}, {"..a", 3, "a"}, {"a..", 3, "a"},
		{"a-.-b -", 5, "a- -b -"}, {"aaa- bbb", 4, "aaa- bbb"},
	} {
		wantLists(t, fmt.Sprintf("WordsOfLines(%q, %d)", c.lines, c.width), impl.WordsOfLines(manyRuns(c.lines), c.width), manyRuns(c.want))
	}
	eachLines(func(lines [][]int, width int) {
		words := cellsOfWords(textOfLines(lines))
		if len(words) > 30 {
			words = nil
		}
		wantLists(t, fmt.Sprintf("WordsOfLines(%v, %d)", lines, width), impl.WordsOfLines(lines, width), words)
	})
}

func TestWordsOfLinesAtTheLimit(t *testing.T) {
	var lines [][]int
	for many := 0; many <= 35; many++ {
		var want [][]int
		if many <= 30 {
			want = manyRuns(textOfWords(many))
		}
		// The words stand on lines of their own, or some of them on one.
		if len(lines) <= 30 {
			wantLists(t, fmt.Sprintf("WordsOfLines of %d lines", many), impl.WordsOfLines(lines, 1), want)
		}
		line := []int{}
		for n := 0; n < many; n++ {
			line = append(line, 1, 0)
		}
		split := min(len(line), 40)
		wantLists(t, fmt.Sprintf("WordsOfLines of %d words", many), impl.WordsOfLines([][]int{line[:split], line[split:]}, 40), want)
		lines = append(lines, []int{1})
	}
}

// textOfWords returns the text of many words of one cell.
func textOfWords(many int) string {
	text := ""
	for range many {
		text += "a "
	}
	return text
}

func TestOtherWordsHaveNoLines(t *testing.T) {
	check := func(words [][]int, width int) {
		if full, best := impl.FillLines(words, width), impl.BestLines(words, width); len(full) > 0 || len(best) > 0 {
			t.Errorf("FillLines and BestLines(%v, %d) = %v, %v", words, width, full, best)
		}
	}
	for _, width := range noWidths {
		check(nil, width)
		check([][]int{{1}}, width)
		check([][]int{{1}, {2}}, width)
	}
	for _, width := range widths {
		good, wide := filled(width, 1), filled(width+1, 1)
		for _, words := range [][][]int{{{}}, {nil}, {good, {}}, {{}, good}, {good, {}, good}, {wide}, {good, wide}, {wide, good}, {filled(100000, 1)}, make([][]int, 100000)} {
			check(words, width)
		}
		for _, cell := range append([]int{0}, noCells...) {
			bad := filled(width, 1)
			bad[width-1] = cell
			other := filled(width, 1)
			other[0] = cell
			for _, words := range [][][]int{{bad}, {other}, {{cell}}, {good, bad}, {other, good}, {good, bad, good}} {
				check(words, width)
			}
		}
		var words [][]int
		for many := 1; many <= 35; many++ {
			words = append(words, good)
			if many <= 30 {
				if full, best := impl.FillLines(words, width), impl.BestLines(words, width); len(full) == 0 || len(best) == 0 {
					t.Errorf("FillLines and BestLines of %d words = %v, %v", many, full, best)
				}
				continue
			}
			check(words, width)
		}
	}
}

func TestOtherLinesHaveNoWords(t *testing.T) {
	check := func(lines [][]int, width int) {
		if cost, words := impl.LineCost(lines, width), impl.WordsOfLines(lines, width); cost != -1 || len(words) > 0 {
			t.Errorf("LineCost and WordsOfLines(%v, %d) = %d, %v", lines, width, cost, words)
		}
	}
	for _, width := range noWidths {
		check(nil, width)
		check([][]int{{}}, width)
		check([][]int{{1}}, width)
		check([][]int{{1}, {2}}, width)
	}
	for _, width := range widths {
		good, wide := filled(width, 1), filled(width+1, 1)
		for _, lines := range [][][]int{{wide}, {filled(width+1, 0)}, {good, wide}, {wide, good}, {good, wide, good}, {filled(100000, 1)}, {filled(100000, 0)}, make([][]int, 31), make([][]int, 32), make([][]int, 100000)} {
			check(lines, width)
		}
		for _, cell := range noCells {
			bad := filled(width, 1)
			bad[width-1] = cell
			for _, lines := range [][][]int{{bad}, {good, bad}, {bad, good}, {{}, {cell}, {}}} {
				check(lines, width)
			}
		}
	}
}

func TestP64LinesKeepWords(t *testing.T) {
	eachFill(func(words [][]int, width int) {
		lines := impl.FillLines(words, width)
		wantLists(t, fmt.Sprintf("WordsOfLines of FillLines(%v, %d)", words, width), impl.WordsOfLines(lines, width), words)
		for _, line := range lines {
			if len(line) > width {
				t.Errorf("FillLines(%v, %d) = %v", words, width, lines)
			}
		}
	})
}

func TestP65FullLinesHaveNoRoomForTheNextWord(t *testing.T) {
	eachFill(func(words [][]int, width int) {
		lines := impl.FillLines(words, width)
		at := 0
		for i, line := range lines {
			if i > 0 && at < len(words) && len(lines[i-1])+1+len(words[at]) <= width {
				t.Errorf("FillLines(%v, %d) = %v, and there is room on the line %d", words, width, lines, i-1)
			}
			at += 1 + count(line, 0)
		}
		if at != len(words) {
			t.Errorf("FillLines(%v, %d) = %v", words, width, lines)
		}
	})
}

func TestP66FullLinesAreFew(t *testing.T) {
	eachFill(func(words [][]int, width int) {
		full, best := impl.FillLines(words, width), impl.BestLines(words, width)
		if len(full) > len(best) {
			t.Errorf("FillLines and BestLines(%v, %d) = %v, %v", words, width, full, best)
		}
		for wider := width + 1; wider <= impl.MaxWidth; wider++ {
			if lines := impl.FillLines(words, wider); len(lines) > len(full) || len(words) > 0 && len(lines) == 0 {
				t.Errorf("FillLines(%v) has %d lines of the width %d, and %d of the width %d", words, len(full), width, len(lines), wider)
			}
		}
	})
}

func TestP67TheLastLineIsFree(t *testing.T) {
	eachLines(func(lines [][]int, width int) {
		cost := impl.LineCost(lines, width)
		want := 0
		if len(lines) > 1 {
			free := width - len(lines[0])
			want = impl.LineCost(lines[1:], width) + free*free
		}
		if cost != want {
			t.Errorf("LineCost(%v, %d) = %d, want %d", lines, width, cost, want)
		}
	})
}

func TestP68TheBestLinesKeepWords(t *testing.T) {
	better := 0
	eachFill(func(words [][]int, width int) {
		full, best := impl.FillLines(words, width), impl.BestLines(words, width)
		wantLists(t, fmt.Sprintf("WordsOfLines of BestLines(%v, %d)", words, width), impl.WordsOfLines(best, width), words)
		if impl.LineCost(best, width) > impl.LineCost(full, width) || impl.LineCost(best, width) < 0 {
			t.Errorf("LineCost of BestLines(%v, %d) = %d, and of FillLines %d", words, width, impl.LineCost(best, width), impl.LineCost(full, width))
		}
		if impl.LineCost(best, width) < impl.LineCost(full, width) {
			better++
		}
	})
	if better < 100 {
		t.Errorf("only %d lists of words have better lines than the full ones", better)
	}
}

func TestP69WhatFollowsTheBestFirstLineIsBest(t *testing.T) {
	eachFill(func(words [][]int, width int) {
		lines := impl.BestLines(words, width)
		if len(lines) == 0 {
			if len(words) > 0 {
				t.Errorf("BestLines(%v, %d) = %v", words, width, lines)
			}
			return
		}
		others := words[1+count(lines[0], 0):]
		wantLists(t, fmt.Sprintf("BestLines(%v, %d)", others, width), impl.BestLines(others, width), lines[1:])
	})
}

func TestP70WordsHaveNoSpaces(t *testing.T) {
	read := 0
	eachLines(func(lines [][]int, width int) {
		words := impl.WordsOfLines(lines, width)
		if len(cellsOfWords(textOfLines(lines))) > impl.MaxItems {
			return
		}
		cells := 0
		for _, word := range words {
			if len(word) == 0 || count(word, 0) > 0 {
				t.Errorf("WordsOfLines(%v, %d) = %v", lines, width, words)
			}
			cells += len(word)
		}
		if cells != otherThanSpaces(lines) {
			t.Errorf("WordsOfLines(%v, %d) = %v", lines, width, words)
		}
		read += len(words)
	})
	if read < 1000 {
		t.Errorf("only %d words are read", read)
	}
}

func TestP190FewWordsFitOnOneLine(t *testing.T) {
	fit := 0
	eachFill(func(words [][]int, width int) {
		if len(words) == 0 {
			return
		}
		line := words[0]
		for _, word := range words[1:] {
			line = joined(line, []int{0}, word)
		}
		full, best := impl.FillLines(words, width), impl.BestLines(words, width)
		if len(line) > width {
			if len(full) < 2 || len(best) < 2 {
				t.Errorf("FillLines and BestLines(%v, %d) = %v, %v", words, width, full, best)
			}
			return
		}
		fit++
		wantLists(t, fmt.Sprintf("FillLines(%v, %d)", words, width), full, [][]int{line})
		wantLists(t, fmt.Sprintf("BestLines(%v, %d)", words, width), best, [][]int{line})
	})
	if fit < 1000 {
		t.Errorf("only %d lists of words fit on one line", fit)
	}
	for many := 1; many <= 20; many++ {
		words := manyRuns(textOfWords(many))
		for _, lines := range [][][]int{impl.FillLines(words, 2*many-1), impl.BestLines(words, 2*many-1)} {
			if len(lines) != 1 || len(lines[0]) != 2*many-1 {
				t.Errorf("the lines of %d words with the width %d are %v", many, 2*many-1, lines)
			}
		}
	}
}

func TestLinesAreNewMemory(t *testing.T) {
	// The words, and the lines, stand in one list.
	all := runs("aabbbcdd")
	words := [][]int{all[0:2], all[2:5], all[5:6], all[6:8]}
	line := runs("aa.bbb.c")
	lines := [][]int{line[0:6], line[6:8]}
	for i := 0; i < 2; i++ {
		wantApart(t, "FillLines", impl.FillLines(words, 6))
		wantApart(t, "FillLines", impl.FillLines(words, 3))
		wantApart(t, "BestLines", impl.BestLines(words, 6))
		wantApart(t, "BestLines", impl.BestLines(words, 3))
		impl.LineCost(lines, 6)
		wantApart(t, "WordsOfLines", impl.WordsOfLines(lines, 6))
		wantCells(t, "the words after the calls", all, runs("aabbbcdd"))
		wantCells(t, "the lines after the calls", line, runs("aa.bbb.c"))
	}
	wantLists(t, "the words after the calls", words, manyRuns("aa bbb c dd"))
	wantLists(t, "the lines after the calls", lines, manyRuns("aa.bbb .c"))
}
