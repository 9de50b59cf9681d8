package tests

import (
	"fmt"
	"strings"
	"testing"

	"loop.example/braille/impl"
)

func TestHyphenIsTheMark(t *testing.T) {
	if impl.Hyphen != 36 || impl.MarkCell("-") != impl.Hyphen {
		t.Errorf("Hyphen is %d", impl.Hyphen)
	}
}

// dividedLines are words as told by partedRuns with their lines of a width as
// told by manyRuns.
var dividedLines = []struct {
	words string
	width int
	lines string
}{
	{"", 2, ""}, {"", 40, ""}, {"a", 2, "a"}, {"a-b", 2, "ab"}, {"a-b-c", 2, "a- bc"}, {"a-b-c-d-e-f", 2, "a- b- c- d- ef"}, {"a b", 2, "a b"}, {"a b", 3, "a.b"},
	{"aaa-bb cc-ddd", 12, "aaabb.ccddd"}, {"aaa-bb cc-ddd", 11, "aaabb.ccddd"}, {"aaa-bb cc-ddd", 10, "aaabb.cc- ddd"}, {"aaa-bb cc-ddd", 9, "aaabb.cc- ddd"},
	{"aaa-bb cc-ddd", 8, "aaabb ccddd"}, {"aaa-bb cc-ddd", 5, "aaabb ccddd"}, {"aaa-bb cc-ddd", 4, "aaa- bb cc- ddd"},
	// A word is as wide as the line, and needs no hyphen.
	{"aaaa-b", 5, "aaaab"}, {"aa-bb-c", 5, "aabbc"}, {"aa-bb-c d", 5, "aabbc d"}, {"d aa-bb-c", 5, "d.aa- bbc"}, {"aa-bb-cc", 5, "aabb- cc"}, {"aaaa-bbbb", 5, "aaaa- bbbb"},
	// There is room for a part alone, but not for its hyphen.
	{"aa bb-cc", 5, "aa bbcc"}, {"aa bb-cc", 6, "aa.bb- cc"}, {"aa bb", 5, "aa.bb"}, {"aa-bb-cc", 4, "aa- bbcc"}, {"aa-bb-ccc", 4, "aa- bb- ccc"}, {"aaa-b-c-d", 4, "aaa- bcd"}, {"aa-b-c-d", 4, "aab- cd"},
	{"a bb-cc-dd", 6, "a.bb- ccdd"}, {"a bb-cc-dd", 7, "a.bbcc- dd"}, {"a bb-cc-dd", 8, "a.bbccdd"}, {"a b-cc", 5, "a.bcc"}, {"a b-cc", 4, "a.b- cc"}, {"aa b-cc", 4, "aa bcc"},
	// There is no room for a space, or just for a space.
	{"aa-aa b-c", 4, "aaaa bc"}, {"aa-aa b", 4, "aaaa b"}, {"aaa b-c", 4, "aaa bc"}, {"aa b-c", 4, "aa bc"}, {"a b-c", 4, "a.bc"}, {"aa b-c", 5, "aa.bc"}, {"aa b", 4, "aa.b"}, {"aaa b", 4, "aaa b"},
	// Other words follow a part on its line.
	{"aaa-b c d", 4, "aaab c.d"}, {"aaa-bb c d", 4, "aaa- bb.c d"}, {"aaa-bb c-d e", 5, "aaabb cd.e"}, {"aaa-bbb c-d", 5, "aaa- bbb cd"}, {"aaa-bbb c-d", 6, "aaabbb cd"}, {"aaaa-bb c-dd", 5, "aaaa- bb.c- dd"},
	// As many parts as fit are put on a line, on each of several lines.
	{"a-b-c-d-e-f", 3, "ab- cd- ef"}, {"a-b-c-d-e-f", 4, "abc- def"}, {"a-b-c-d-e-f", 5, "abcd- ef"}, {"a-b-c-d-e-f", 6, "abcdef"}, {"a b-c-d-e-f-g", 5, "a.bc- defg"}, {"a b-c-d-e-f-g", 4, "a.b- cde- fg"},
}

func TestDivideLines(t *testing.T) {
	for _, c := range dividedLines {
		words := partedRuns(c.words)
		lines := impl.DivideLines(words, c.width)
		wantLists(t, fmt.Sprintf("DivideLines(%q, %d)", c.words, c.width), lines, manyRuns(c.lines))
		wantLists(t, fmt.Sprintf("JoinLines of DivideLines(%q, %d)", c.words, c.width), impl.JoinLines(lines), wholeWords(words))
	}
}

func TestDivideLinesOfAllKinds(t *testing.T) {
	parted := 0
	eachParted(func(words [][][]int, width int) {
		lines := impl.DivideLines(words, width)
		wantLists(t, fmt.Sprintf("DivideLines(%v, %d)", words, width), lines, divided(words, width))
		for _, line := range lines {
			parted += count(line, impl.Hyphen)
		}
	})
	if parted < 1000 {
		t.Errorf("only %d words are divided", parted)
	}
}

func TestOtherWordsAreNotDivided(t *testing.T) {
	for _, width := range append([]int{1}, noWidths...) {
		for _, words := range [][][][]int{nil, {}, {{{1}}}, {{{1}, {2}}}} {
			if lines := impl.DivideLines(words, width); len(lines) > 0 {
				t.Errorf("DivideLines(%v, %d) = %v", words, width, lines)
			}
		}
	}
	for _, width := range widths {
		if width < 2 {
			continue
		}
		for _, words := range noParted(width) {
			if lines := impl.DivideLines(words, width); len(lines) > 0 {
				t.Errorf("DivideLines(%v, %d) = %v", words, width, lines)
			}
		}
	}
}

func TestDivideLinesAtTheLimits(t *testing.T) {
	for _, width := range []int{2, 3, 39, 40} {
		for many := 1; many <= 33; many++ {
			for parts := 1; parts <= 8; parts++ {
				var words [][][]int
				var want [][]int
				for range many {
					word := [][]int{}
					for range parts {
						word = append(word, filled(width-1, 63))
					}
					words = append(words, word)
				}
				if many <= 30 && parts <= 6 {
					want = divided(words, width)
				}
				wantLists(t, fmt.Sprintf("DivideLines of %d words of %d parts of %d cells", many, parts, width-1), impl.DivideLines(words, width), want)
			}
		}
	}
	for cell := -3; cell <= 67; cell++ {
		var want [][]int
		if cell >= 1 && cell <= 63 && cell != 36 {
			want = [][]int{{5, cell, 36}, {cell, 5}}
		}
		wantLists(t, fmt.Sprintf("DivideLines of the cell %d", cell), impl.DivideLines([][][]int{{{5, cell}, {cell, 5}}}, 3), want)
	}
}

func TestJoinLines(t *testing.T) {
	for _, c := range []struct{ lines, words string }{
		{"", ""}, {"a", "a"}, {"a b", "a b"}, {"a- b", "ab"}, {"aa.b- c.dd", "aa bc dd"}, {"a- b- c- d", "abcd"}, {"a- b- c.d- e", "abc de"}, {"a..b c", "a b c"},
		// Only the last hyphen of a line goes.
		{"a-.b- c", "a- bc"}, {"a-- b", "a-b"}, {"--a-- --b", "--a---b"}, {"a-.b--- -c", "a- b---c"}, {"-a", "-a"}, {"a-.b", "a- b"}, {"a-b", "a-b"}, {"-.a", "- a"}, {"a.-.b", "a - b"},
		// The word before a hyphen is empty, or all of it is a hyphen.
		{"- a", "a"}, {"- -a", "-a"}, {"a.- b", "a b"}, {"- - a", "a"}, {"-- a", "-a"}, {"a- - b", "ab"}, {"a- -- b", "a-b"}, {"a- -.- b", "a- b"}, {"- - - a.- b.c", "a b c"}, {"a..- b", "a b"},
		{"a- b.c", "ab c"}, {"a.b- c.d- e.f", "a bc de f"},
	} {
		wantLists(t, fmt.Sprintf("JoinLines(%q)", c.lines), impl.JoinLines(manyRuns(c.lines)), manyRuns(c.words))
	}
	for _, lines := range []string{
		"-", "a-", "a -", "a- -", "- -", "a.-", "a b c-", "--", // the last line ends with a hyphen
		".a", "a.", ".", "..", ".a.", "a .b", "a b.", "a . b", "a. b", "a- .b", "a-. b", "a .- b", "a- b.", // a line begins or ends with a space
		"_", "a _", "_ a", "a _ b", "a- _ b", "_ _", // a line is empty
	} {
		wantLists(t, fmt.Sprintf("JoinLines(%q)", lines), impl.JoinLines(manyRuns(lines)), nil)
	}
}

func TestJoinLinesOfAllKinds(t *testing.T) {
	all := allLists([]int{0, 1, impl.Hyphen}, 3)
	check := func(lines [][]int) {
		var want [][]int
		if joinable(lines) {
			want = joinedWords(lines)
		}
		wantLists(t, fmt.Sprintf("JoinLines(%v)", lines), impl.JoinLines(lines), want)
	}
	for _, one := range all {
		check([][]int{one})
		for _, two := range all {
			check([][]int{one, two})
			for _, three := range all {
				check([][]int{one, two, three})
			}
		}
	}
	for _, lines := range longLines() {
		if !joinable(lines) {
			t.Errorf("the lines %v cannot be joined", lines)
		}
		check(lines)
	}
}

func TestJoinLinesAtTheLimits(t *testing.T) {
	for many := 0; many <= 205; many++ {
		var apart, together, wantApart, wantTogether [][]int
		for n := 0; n < many; n++ {
			apart = append(apart, runs(strings.Repeat("a.", 19)+"aa"))
			together = append(together, append(filled(39, 63), impl.Hyphen))
		}
		if many > 0 {
			together[many-1][39] = 63
		}
		if many > 0 && many <= 200 {
			wantApart, wantTogether = cellsOfWords(textOfLines(apart)), [][]int{filled(39*many+1, 63)}
		}
		wantLists(t, fmt.Sprintf("JoinLines of %d lines", many), impl.JoinLines(apart), wantApart)
		wantLists(t, fmt.Sprintf("JoinLines of %d lines of one word", many), impl.JoinLines(together), wantTogether)
	}
	for _, length := range []int{1, 2, 39, 40, 41, 42, 200, 201, 100000} {
		var want [][]int
		if length <= 40 {
			want = [][]int{filled(length, 1), {2}}
		}
		wantLists(t, fmt.Sprintf("JoinLines of a line of %d cells", length), impl.JoinLines([][]int{filled(length, 1), {2}}), want)
	}
	for _, n := range noCells {
		for _, lines := range [][][]int{{{n}}, {{1, n, 1}}, {{n, 1}, {1}}, {{1}, {1, n}}, {{1, n, 36}, {1}}} {
			wantLists(t, fmt.Sprintf("JoinLines(%v)", lines), impl.JoinLines(lines), nil)
		}
	}
	wantLists(t, "JoinLines of all cells", impl.JoinLines([][]int{{63, 0, 1}, {62, 36}, {36, 0, 63}}), [][]int{{63}, {1}, {62, 36}, {63}})
}

func TestP71DividedWordsAreJoinedAgain(t *testing.T) {
	eachParted(func(words [][][]int, width int) {
		wantLists(t, fmt.Sprintf("JoinLines of DivideLines(%v, %d)", words, width), impl.JoinLines(impl.DivideLines(words, width)), wholeWords(words))
	})
}

func TestP72DividedLinesFit(t *testing.T) {
	eachParted(func(words [][][]int, width int) {
		lines := impl.DivideLines(words, width)
		for _, line := range lines {
			if len(line) == 0 || len(line) > width || line[0] == 0 || line[len(line)-1] == 0 {
				t.Errorf("DivideLines(%v, %d) = %v", words, width, lines)
				break
			}
		}
		if (len(lines) == 0) != (len(words) == 0) {
			t.Errorf("DivideLines(%v, %d) = %v", words, width, lines)
		}
	})
}

func TestP73WordsOfOnePartAreNotDivided(t *testing.T) {
	check := func(parts [][]int, width int) {
		var words [][][]int
		for _, part := range parts {
			words = append(words, [][]int{part})
		}
		wantLists(t, fmt.Sprintf("DivideLines(%v, %d)", words, width), impl.DivideLines(words, width), impl.FillLines(parts, width))
	}
	for width := 2; width <= 8; width++ {
		for _, parts := range wordsOfLengths(5, min(width-1, 4)) {
			check(parts, width)
		}
	}
	eachParted(func(words [][][]int, width int) {
		var parts [][]int
		for _, word := range words {
			parts = append(parts, word[0])
		}
		check(parts, width)
	})
}

func TestP74DividingSavesLines(t *testing.T) {
	fewer := 0
	eachParted(func(words [][][]int, width int) {
		whole := wholeWords(words)
		for _, word := range whole {
			if len(word) > width {
				return
			}
		}
		lines, full := impl.DivideLines(words, width), impl.FillLines(whole, width)
		if len(lines) > len(full) {
			t.Errorf("DivideLines(%v, %d) = %v, and FillLines are %v", words, width, lines, full)
		}
		if len(lines) < len(full) {
			fewer++
		}
	})
	if fewer < 100 {
		t.Errorf("only %d lists of words have fewer lines", fewer)
	}
}

func TestP75JoinedWordsHaveNoSpaces(t *testing.T) {
	check := func(lines [][]int) {
		words := impl.JoinLines(lines)
		cells := 0
		for _, word := range words {
			if len(word) == 0 || count(word, 0) > 0 {
				t.Errorf("JoinLines(%v) = %v", lines, words)
			}
			cells += len(word)
		}
		if cells > otherThanSpaces(lines) || len(lines) > 0 && len(words) == 0 {
			t.Errorf("JoinLines(%v) = %v", lines, words)
		}
	}
	for _, lines := range longLines() {
		check(lines)
	}
	eachParted(func(words [][][]int, width int) { check(impl.DivideLines(words, width)) })
	all := allLists([]int{1, 0, impl.Hyphen}, 3)
	for _, one := range all {
		for _, two := range all {
			if lines := [][]int{one, two}; joinable(lines) {
				check(lines)
			}
		}
	}
}

// cellsOfParts returns the cells of the letters of parts.
func cellsOfParts(parts []string) [][]int {
	var lists [][]int
	for _, part := range parts {
		var cells []int
		for i := range part {
			cells = append(cells, impl.LetterCell(int(part[i]-'a')))
		}
		lists = append(lists, cells)
	}
	return lists
}

func TestP179PartsOfWordsComeTogether(t *testing.T) {
	together, parted := 0, 0
	eachDivision(func(list []impl.Pattern, word string) {
		parts := cellsOfParts(impl.DivideWord(list, word))
		longest := 0
		for _, part := range parts {
			longest = max(longest, len(part))
		}
		for width := longest + 1; width <= 40 && len(parts) <= impl.MaxParts; width++ {
			lines := impl.DivideLines([][][]int{parts}, width)
			wantLists(t, fmt.Sprintf("JoinLines of DivideLines(%v, %d)", parts, width), impl.JoinLines(lines), [][]int{impl.PlainCells(word)})
			together++
			if len(lines) > 1 {
				parted++
			}
		}
	})
	if together < 1000 || parted < 1000 {
		t.Errorf("%d words come together, %d of them from two lines or more", together, parted)
	}
}

func TestDividedLinesAreNewMemory(t *testing.T) {
	// The parts, and the lines, stand in one list.
	all := runs("aaabbccddd")
	words := [][][]int{{all[0:3], all[3:5]}, {all[5:7], all[7:10]}}
	line := runs("aa.b-c-d-e.f")
	lines := [][]int{line[0:5], line[5:7], line[7:9], line[9:12]}
	for i := 0; i < 2; i++ {
		for _, width := range []int{4, 7, 9, 11, 40} {
			wantApart(t, fmt.Sprintf("DivideLines with the width %d", width), impl.DivideLines(words, width))
		}
		wantApart(t, "JoinLines", impl.JoinLines(lines))
		wantApart(t, "JoinLines", impl.JoinLines([][]int{line[0:4]}))
		wantCells(t, "the words after the calls", all, runs("aaabbccddd"))
		wantCells(t, "the lines after the calls", line, runs("aa.b-c-d-e.f"))
	}
	wantLists(t, "JoinLines", impl.JoinLines(lines), manyRuns("aa bcde f"))
	if fmt.Sprint(words) != fmt.Sprint(partedRuns("aaa-bb cc-ddd")) || fmt.Sprint(lines) != fmt.Sprint(manyRuns("aa.b- c- d- e.f")) {
		t.Errorf("the arguments after the calls = %v, %v", words, lines)
	}
}
