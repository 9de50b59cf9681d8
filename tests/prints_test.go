package tests

import (
	"strings"
	"testing"

	"loop.example/braille/impl"
)

// printedDots has the dots of each character of a printer, behind the character;
// 0 is a space.
var printedDots = strings.Split(
	" 0 A1 B12 C14 D145 E15 F124 G1245 H125 I24 J245 K13 L123 M134 N1345 O135 P1234 Q12345 R1235 S234 T2345 U136 V1236 W2456 X1346 Y13456 Z1356"+
		" 12 223 325 4256 526 6235 72356 8236 935 0356"+
		" =123456 (12356 !2346 )23456 *16 <126 %146 ?1456 :156 $1246 ]12456 \\1256 [246 /34 +346 #3456 >345 '3 -36 @4 ^45 _456 \"5 .46 ;56 ,6 &12346", " ")[1:]

// printedCells returns the cells of all characters of a printer.
func printedCells() map[byte]int {
	cells := map[byte]int{' ': 0}
	for _, dots := range printedDots[1:] {
		cells[dots[0]] = cellOfDots(dots[1:])
	}
	return cells
}

// printedCharacters returns the characters of all cells, in order.
func printedCharacters() string {
	list := make([]byte, 64)
	for c, cell := range printedCells() {
		list[cell] = c
	}
	return string(list)
}

// printer prints cells by its characters.
type printer struct{ characters string }

// newPrinter returns a printer.
func newPrinter() printer {
	return printer{printedCharacters()}
}

// line returns the characters of cells.
func (p printer) line(cells []int) string {
	text := ""
	for _, cell := range cells {
		text += p.characters[cell : cell+1]
	}
	return text
}

// pages returns the text that prints pages.
func (p printer) pages(pages [][][]int) string {
	var text strings.Builder
	for _, page := range pages {
		for _, line := range page {
			text.WriteString(p.line(line) + "\x0a")
		}
		text.WriteString("\x0c")
	}
	return text.String()
}

// fullPages returns pages that all have the same lines of the same cells.
func fullPages(many, height, width, cell int) [][][]int {
	var pages [][][]int
	for range many {
		var page [][]int
		for range height {
			page = append(page, filled(width, cell))
		}
		pages = append(pages, page)
	}
	return pages
}

// printable returns pages that can be printed together: none, short ones, the
// most and the largest ones, pages with heads, and many others.
func printable() [][][][]int {
	all := [][][][]int{
		nil, {}, {{{}}}, {{{0}}}, {{{}, {}}}, {{{}}, {{}}}, {{{}, {1}}, {{2, 0, 3}}}, {{{1, 3}, {}}, {{9}}}, {{{0}, {0, 0}, {}}},
		fullPages(20, 30, 40, 63), fullPages(20, 30, 40, 0), fullPages(20, 30, 0, 0), fullPages(20, 1, 40, 57), fullPages(20, 1, 0, 0), fullPages(1, 30, 40, 30), fullPages(1, 30, 0, 0), fullPages(1, 1, 40, 1),
	}
	for cell := range 64 {
		all = append(all, [][][]int{{{cell}}}, [][][]int{{{cell, 1}, {}}, {{1, cell, cell}}})
	}
	seq := sequence{81}
	for i := range 300 {
		var pages [][][]int
		for range seq.next(1 + min(i, 20)) {
			pages = append(pages, randomLines(&seq, 1+seq.next(1+min(i, 29)), 1+seq.next(40)))
		}
		all = append(all, pages)
	}
	for _, height := range []int{2, 11, 30} {
		all = append(all, paged(randomLines(&seq, min(200, 20*(height-1)), 40), []int{5, 6}, 40, height))
	}
	return all
}

// noPrintable returns pages that cannot be printed together, each for one reason
// alone.
func noPrintable() [][][][]int {
	good := [][]int{{1}, {}}
	all := [][][][]int{
		fullPages(21, 1, 1, 1), fullPages(21, 30, 40, 1), fullPages(21, 1, 0, 0), fullPages(100000, 1, 1, 1),
		{{}}, {nil}, {good, {}}, {{}, good}, {good, nil, good},
		fullPages(1, 31, 1, 1), fullPages(1, 31, 0, 0), fullPages(20, 31, 40, 0), {good, make([][]int, 31)}, {make([][]int, 100000)},
		fullPages(1, 1, 41, 1), fullPages(20, 30, 41, 0), {good, {{}, filled(41, 1)}}, {{filled(100000, 1)}, good},
	}
	for _, cell := range noCells {
		all = append(all, [][][]int{{{cell}}}, [][][]int{good, {{1}, {1, cell}}}, [][][]int{{{cell, 1}, {1}}, good}, [][][]int{{{}, joined(filled(39, 1), []int{cell}), {}}})
	}
	return all
}

// noPrints returns texts that print no pages, each for one reason alone.
func noPrints() []string {
	p := newPrinter()
	all := []string{
		// A line or a page is not ended.
		"A", "A\n", "A\f", "A\nB\f", "A\n\fB", "A\n\fB\n", "A\n\fB\f", " ", "\n", "\nA\f", "A\n\f ", "A\n\f\n",
		// A page has no lines.
		"\f", "\f\f", "\fA\n\f", "A\n\f\f", "A\n\f\fB\n\f",
		// Other characters stand in a line, before it or behind it.
		"a\n\f", "A\r\n\f", "\rA\n\f", "A\n\r\f", "A\n\f\r", "\x00\n\f", "A\x00\n\f", "A\t\n\f", "A\v\n\f", "`\n\f", "{\n\f", "~\n\f", "\x7f\n\f", "\x80\n\f", "\xff\n\f", "é\n\f", "A\n\f\x00", "\ufeffA\n\f",
		// There are too many cells, lines or pages.
		p.pages(fullPages(1, 1, 41, 1)), p.pages(fullPages(20, 30, 41, 1)), p.pages(fullPages(1, 1, 200, 1)), p.pages(fullPages(1, 1, 201, 1)), p.pages(fullPages(1, 31, 1, 1)), p.pages(fullPages(20, 31, 0, 0)), p.pages(fullPages(21, 1, 1, 1)), p.pages(fullPages(21, 1, 0, 0)), p.pages(fullPages(21, 30, 40, 1)),
		strings.Repeat("A", 1000000), strings.Repeat("\n", 1000000), strings.Repeat("\f", 1000000), strings.Repeat("\n\f", 1000000), strings.Repeat("A", 1000000) + "\n\f", strings.Repeat("A\n", 1000000) + "\f",
	}
	return all
}

// wantPrint fails the test if a text is not read as pages.
func wantPrint(t *testing.T, s string, want [][][]int) {
	t.Helper()
	got, ok := impl.ReadPrint(s)
	if !ok {
		t.Errorf("ReadPrint(%.300q) is false", s)
	}
	wantPages(t, "ReadPrint", got, want)
}

// wantNoPrint fails the test if a text is read as pages.
func wantNoPrint(t *testing.T, s string) {
	t.Helper()
	if pages, ok := impl.ReadPrint(s); ok || len(pages) > 0 {
		t.Errorf("ReadPrint(%.300q) = %v, %t", s, pages, ok)
	}
}

// shortPages returns the pages that a text of A, spaces, newlines and form feeds
// prints, by cutting it at each form feed and each newline, and whether there are
// such pages.
func shortPages(s string) ([][][]int, bool) {
	var pages [][][]int
	parts := strings.Split(s, "\f")
	for _, part := range parts[:len(parts)-1] {
		lines := strings.Split(part, "\n")
		if len(lines) < 2 || lines[len(lines)-1] != "" {
			return nil, false
		}
		var page [][]int
		for _, line := range lines[:len(lines)-1] {
			var cells []int
			for _, c := range line {
				if c != 'A' && c != ' ' {
					return nil, false
				}
				cells = append(cells, strings.Index(" A", string(c)))
			}
			page = append(page, cells)
		}
		pages = append(pages, page)
	}
	return pages, parts[len(parts)-1] == ""
}
