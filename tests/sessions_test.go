package tests

import (
	"regexp"
	"strings"
	"testing"

	"loop.example/braille/impl"
)

// commands are all commands of a session.
var commands = []string{"cells", "plain", "read", "word", "same", "ascii"}

// noCommands are words that are no commands, though they look like some.
var noCommands = []string{"", "what", "no", "help", "cell", "cellss", "Cells", "CELLS", "cells\t", "\tcells", "cells:", "cells\n", "cells\x00", "plains", "plai", "READ", "reads", "words", "w", "Same", "sames", "ASCII", "asci", "é", "\xff", "1", "-", "cellsplain", "cells-plain", strings.Repeat("cells", 100000)}

// plainText finds valid texts of any length.
var plainText = regexp.MustCompile(`^[A-Za-z0-9 .,;:!?'-]*$`)

// dotsWritten returns the text of cells.
func dotsWritten(cells []int) string {
	var dots []string
	for _, cell := range cells {
		dots = append(dots, textOfDots(impl.DotsOf(cell)))
	}
	return strings.Join(dots, "-")
}

// answered returns the answer to a line, without its newline.
func answered(table []impl.Rule, line string) string {
	command, behind, _ := strings.Cut(line, " ")
	isText := len(behind) <= 60 && plainText.MatchString(behind)
	cells, isCells := impl.ParseCells(behind)
	switch command {
	case "cells":
		if isText {
			return dotsWritten(showText(table, behind).cells)
		}
	case "plain":
		if isText {
			return dotsWritten(impl.PlainCells(behind))
		}
	case "read":
		if text, ok := impl.ReadText(table, cells); ok && isCells {
			return text
		}
	case "word":
		if wholeWord.MatchString(behind) {
			return dotsWritten(impl.WordCells(table, behind))
		}
	case "same":
		if same := impl.Homographs(table, behind); len(same) > 0 {
			return strings.Join(same, ",")
		}
	case "ascii":
		if isCells {
			return newPrinter().line(cells)
		}
	default:
		return "what"
	}
	return "no"
}

// sessionLines returns lines of sessions: all commands, and words that are none,
// with texts, words, cells, and what is none of these.
func sessionLines() []string {
	behind := []string{"", "a", "the", "but", "b", "the and but", "The 1a, AB.", " ", " a", "a ", "  the", "thing", "dance", longestWord, longestWord + "b", "abcdef", "abcdefg", "0", "1", "1-12", "2346-0-12346", "3456-1-6-1", "12", "1456-346", "21", "1-", "-1", "1--1", "64", "123456", "_", "é", "the\n", "\n", "\x00", "cells", "cells the", "a\tb"}
	behind = append(behind, strings.Repeat("a ", 30), strings.Repeat("a ", 30)+"a", strings.Repeat("a", 61), strings.TrimSuffix(strings.Repeat("1-", 200), "-"), strings.Repeat("1-", 200)+"1", strings.TrimSuffix(strings.Repeat("0-", 60), "-"), strings.TrimSuffix(strings.Repeat("0-", 61), "-"), strings.Repeat("a", 100000))
	var all []string
	for _, command := range append(append([]string{}, commands...), noCommands[:20]...) {
		all = append(all, command)
		for _, text := range behind {
			all = append(all, command+" "+text)
		}
	}
	return append(all, noCommands...)
}

// sessions returns lists of at most 20 lines.
func sessions() [][]string {
	lists := [][]string{nil, {}, {""}, make([]string, 20), {"help", ""}, {"cells the", "plain the", "read 2346"}}
	lines := sessionLines()
	seq := sequence{151}
	for from := 0; from < len(lines); {
		to := min(from+1+seq.next(20), len(lines))
		lists = append(lists, lines[from:to])
		from = to
	}
	for range 100 {
		var list []string
		for range seq.next(21) {
			list = append(list, lines[seq.next(len(lines))])
		}
		lists = append(lists, list)
	}
	return lists
}

// sessionTables returns tables for sessions.
func sessionTables() [][]impl.Rule {
	return append(madeTables(), tables()[10:16]...)
}

// wantSession fails the test if a session does not answer as it must.
func wantSession(t *testing.T, table []impl.Rule, lines []string, want string) {
	t.Helper()
	if got := impl.RunSession(table, lines); got != want {
		t.Errorf("RunSession(%v, %.500q) = %.500q, want %.500q", table, lines, got, want)
	}
}

// filling is a text with a table by which all its words are safe, and the lines
// of its words on a width.
type filling struct {
	table []impl.Rule
	text  string
	words [][]int
	width int
}

// unevenTexts returns texts of words with very different numbers of cells, most
// of which are not contracted.
func unevenTexts() []string {
	parts := []string{"I", "26", "NATO", "McD", "1234567", "1a2b", "THE", "Andersen", "O'HARA-B", "D", "the", "thing", "?!"}
	seq := sequence{152}
	var all []string
	for range 100 {
		text := parts[seq.next(len(parts))]
		for {
			next := text + " " + parts[seq.next(len(parts))]
			if len(next) > 60 {
				break
			}
			text = next
		}
		all = append(all, text)
	}
	return all
}

// splitAtSpaces returns the words of cells.
func splitAtSpaces(cells []int) [][]int {
	var words [][]int
	begun := false
	for _, cell := range cells {
		if cell != 0 && !begun {
			words = append(words, nil)
		}
		begun = cell != 0
		if begun {
			last := len(words) - 1
			words[last] = append(words[last], cell)
		}
	}
	return words
}

// eachFilling calls a function for texts of safe words, which all fit on lines.
// The texts have single spaces, and none at their ends; the words may be those of
// a text with more spaces.
func eachFilling(f func(c filling)) {
	all := append(texts(), unevenTexts()...)
	for i, table := range tables() {
		known := newSafety(table)
		for k, text := range all {
			c := filling{table: table, text: strings.Join(strings.Fields(text), " ")}
			if !known.allSafe(showText(nil, c.text).words) || len(text) <= 3 && k%5 != i%5 {
				continue
			}
			longest := 0
			c.words = splitAtSpaces(impl.TextCells(table, text))
			for _, word := range c.words {
				longest = max(longest, len(word))
			}
			c.width = min(max(6, longest+[]int{0, 1, 2, 5, 10, 34}[(i+k)%6]), 40)
			if len(c.words) <= 30 && longest <= c.width {
				f(c)
			}
		}
	}
}

// spacedOut returns words with a space between two of them.
func spacedOut(words [][]int) []int {
	var cells []int
	for i, word := range words {
		if i > 0 {
			cells = append(cells, 0)
		}
		cells = append(cells, word...)
	}
	return cells
}
