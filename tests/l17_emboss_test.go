package tests

import (
	"fmt"
	"strings"
	"testing"

	"loop.example/braille/impl"
)

func TestMaxPages(t *testing.T) {
	if impl.MaxPages != 20 || impl.MaxCells != 200 || impl.MaxHeight != 30 || impl.MaxWidth != 40 {
		t.Errorf("MaxPages, MaxCells, MaxHeight and MaxWidth are %d, %d, %d and %d", impl.MaxPages, impl.MaxCells, impl.MaxHeight, impl.MaxWidth)
	}
}

func TestCharactersOfCells(t *testing.T) {
	cells := printedCells()
	if len(cells) != 64 {
		t.Fatalf("the test has %d characters", len(cells))
	}
	for c := range 256 {
		text := string([]byte{byte(c)})
		got, ok := impl.CellsOfAscii(text)
		cell, found := cells[byte(c)]
		if !found {
			if ok || len(got) > 0 {
				t.Errorf("CellsOfAscii(%q) = %v, %t", text, got, ok)
			}
			continue
		}
		if !ok || !equal(got, []int{cell}) {
			t.Errorf("CellsOfAscii(%q) = %v, %t, want %d", text, got, ok, cell)
		}
		if impl.AsciiOf([]int{cell}) != text {
			t.Errorf("AsciiOf the cell %d = %q, want %q", cell, impl.AsciiOf([]int{cell}), text)
		}
	}
}

func TestAsciiOf(t *testing.T) {
	p := newPrinter()
	for _, c := range []struct {
		cells []int
		text  string
	}{
		{nil, ""}, {[]int{0}, " "}, {[]int{0, 0}, "  "}, {[]int{1, 3, 9, 0, 63, 51, 16}, "ABC =\\\""}, {[]int{60, 1, 48, 1, 32, 1}, "#A;A,A"}, {filled(200, 63), strings.Repeat("=", 200)},
	} {
		if got := impl.AsciiOf(c.cells); got != c.text {
			t.Errorf("AsciiOf(%v) = %q, want %q", c.cells, got, c.text)
		}
	}
	for _, cells := range cellLists() {
		text := p.line(cells)
		if impl.AsciiOf(cells) != text {
			t.Errorf("AsciiOf(%v) = %q, want %q", cells, impl.AsciiOf(cells), text)
		}
		if got, ok := impl.CellsOfAscii(text); !ok || !equal(got, cells) {
			t.Errorf("CellsOfAscii(%q) = %v, %t", text, got, ok)
		}
	}
}

func TestAsciiOfOtherCells(t *testing.T) {
	lists := [][]int{filled(201, 0), filled(201, 1), filled(202, 63), filled(100000, 5)}
	for _, cell := range noCells {
		lists = append(lists, []int{cell}, []int{1, cell}, []int{cell, 1}, joined(filled(199, 1), []int{cell}))
	}
	for _, cells := range lists {
		if text := impl.AsciiOf(cells); text != "" {
			t.Errorf("AsciiOf(%v) = %q", cells, text)
		}
	}
}

func TestCellsOfOtherCharacters(t *testing.T) {
	texts := []string{strings.Repeat("A", 201), strings.Repeat(" ", 201), strings.Repeat("=", 202), strings.Repeat("A", 1000000), "abc", "ABc", "aBC", "A\n", "\nA", "A\f", "é", "A\x00"}
	for c := range 256 {
		if _, found := printedCells()[byte(c)]; !found {
			bad := string([]byte{byte(c)})
			texts = append(texts, bad, "A"+bad, bad+"A", strings.Repeat("A", 199)+bad)
		}
	}
	for _, text := range texts {
		if cells, ok := impl.CellsOfAscii(text); ok || len(cells) > 0 {
			t.Errorf("CellsOfAscii(%.300q) = %v, %t", text, cells, ok)
		}
	}
	if cells, ok := impl.CellsOfAscii(""); !ok || len(cells) > 0 {
		t.Errorf("CellsOfAscii of no characters = %v, %t", cells, ok)
	}
	for many := 198; many <= 203; many++ {
		if cells, ok := impl.CellsOfAscii(strings.Repeat("B", many)); ok != (many <= 200) || ok && !equal(cells, filled(many, 3)) {
			t.Errorf("CellsOfAscii of %d characters = %v, %t", many, cells, ok)
		}
	}
}

func TestPrintOf(t *testing.T) {
	for _, c := range []struct {
		pages [][][]int
		text  string
	}{
		{nil, ""}, {[][][]int{{{}}}, "\n\f"}, {[][][]int{{{0}}}, " \n\f"}, {[][][]int{{{1}}}, "A\n\f"}, {[][][]int{{{1, 3}, {}}, {{9}}}, "AB\n\n\fC\n\f"}, {[][][]int{{{}, {}}, {{}}}, "\n\n\f\n\f"},
		{[][][]int{{{7, 0, 0, 60, 1}, {63, 16}}, {{51}}}, "L  #A\n=\"\n\f\\\n\f"},
	} {
		if got := impl.PrintOf(c.pages); got != c.text {
			t.Errorf("PrintOf(%v) = %q, want %q", c.pages, got, c.text)
		}
		wantPrint(t, c.text, c.pages)
	}
	p := newPrinter()
	for _, pages := range printable() {
		text := p.pages(pages)
		if impl.PrintOf(pages) != text {
			t.Errorf("PrintOf(%v) = %q, want %q", pages, impl.PrintOf(pages), text)
		}
		wantPrint(t, text, pages)
	}
}

func TestPagesThatAreNotPrinted(t *testing.T) {
	for _, pages := range noPrintable() {
		if text := impl.PrintOf(pages); text != "" {
			t.Errorf("PrintOf(%.300s) = %.300q", fmt.Sprint(pages), text)
		}
	}
}

func TestPagesOfTheLimitArePrinted(t *testing.T) {
	p := newPrinter()
	check := func(many, height, width int) {
		pages := fullPages(many, height, width, 1)
		text := p.pages(pages)
		if many <= 20 && height <= 30 && width <= 40 {
			if impl.PrintOf(pages) != text {
				t.Errorf("%d pages of %d lines of %d cells are not printed", many, height, width)
			}
			wantPrint(t, text, pages)
			return
		}
		if impl.PrintOf(pages) != "" {
			t.Errorf("%d pages of %d lines of %d cells are printed", many, height, width)
		}
		wantNoPrint(t, text)
	}
	for _, many := range []int{1, 19, 20, 21, 22} {
		for _, height := range []int{1, 29, 30, 31, 32} {
			for _, width := range []int{0, 1, 39, 40, 41, 42} {
				check(many, height, width)
			}
		}
	}
}

func TestReadPrintOfOtherTexts(t *testing.T) {
	for _, text := range noPrints() {
		wantNoPrint(t, text)
	}
	for c := range 256 {
		text := string([]byte{byte(c)}) + "\n\f"
		pages, ok := impl.ReadPrint(text)
		cell, found := printedCells()[byte(c)]
		// A newline alone is an empty line.
		if c == '\n' {
			wantPages(t, "ReadPrint of two empty lines", pages, [][][]int{{{}, {}}})
			continue
		}
		if ok != found || ok && fmt.Sprint(pages) != fmt.Sprint([][][]int{{{cell}}}) || !ok && len(pages) > 0 {
			t.Errorf("ReadPrint(%q) = %v, %t", text, pages, ok)
		}
	}
}

func TestReadPrintOfAllShortTexts(t *testing.T) {
	read := 0
	for _, text := range textsOf("A \n\fa", 7) {
		pages, ok := shortPages(text)
		if !ok {
			wantNoPrint(t, text)
			continue
		}
		read++
		wantPrint(t, text, pages)
	}
	if read < 300 {
		t.Errorf("only %d texts are read", read)
	}
}

func TestP110CharactersAreReadBack(t *testing.T) {
	for _, list := range cellLists() {
		text := impl.AsciiOf(list)
		cells, ok := impl.CellsOfAscii(text)
		if !ok || !equal(cells, list) || len(text) != len(list) {
			t.Errorf("CellsOfAscii(%q) = %v, %t, want %v", text, cells, ok, list)
		}
	}
}

func TestP111CharactersAreWrittenBack(t *testing.T) {
	seq := sequence{82}
	from := printedCharacters()
	for i := range 1000 {
		var text strings.Builder
		for range i % 201 {
			text.WriteByte(from[seq.next(64)])
		}
		cells, ok := impl.CellsOfAscii(text.String())
		if got := impl.AsciiOf(cells); !ok || got != text.String() {
			t.Errorf("AsciiOf(%v) = %q, want %q", cells, got, text.String())
		}
	}
	read := 0
	for _, text := range textsOf("AZ09@[`a =_\n", 4) {
		if cells, ok := impl.CellsOfAscii(text); ok {
			read++
			if got := impl.AsciiOf(cells); got != text {
				t.Errorf("AsciiOf(%v) = %q, want %q", cells, got, text)
			}
		}
	}
	if read < 1000 {
		t.Errorf("only %d texts are read", read)
	}
}

func TestP112LettersAreCapitalLetters(t *testing.T) {
	for _, word := range append(words(), smallLetters[:16], smallLetters[10:], longestWord) {
		for _, cells := range [][]int{impl.PlainCells(word), impl.WordCells(nil, word)} {
			if got := impl.AsciiOf(cells); got != strings.ToUpper(word) {
				t.Errorf("AsciiOf the cells of %q = %q", word, got)
			}
		}
	}
}

func TestP113PrintedPagesAreReadBack(t *testing.T) {
	for _, pages := range printable() {
		wantPrint(t, impl.PrintOf(pages), pages)
	}
}

func TestP114EachLineIsPrinted(t *testing.T) {
	for _, pages := range printable() {
		lines := 0
		for _, page := range pages {
			lines += len(page)
		}
		text := impl.PrintOf(pages)
		if strings.Count(text, "\n") != lines || strings.Count(text, "\f") != len(pages) {
			t.Errorf("PrintOf(%v) = %q, with %d lines", pages, text, lines)
		}
	}
}

func TestP115ReadPagesArePrintedAgain(t *testing.T) {
	seq := sequence{83}
	from := printedCharacters() + "\n\n\n\f\f\fa"
	p := newPrinter()
	read := 0
	for _, pages := range printable() {
		for range 5 {
			text := p.pages(pages)
			if len(text) > 0 {
				at, put := seq.next(len(text)), seq.next(len(from))
				text = text[:at] + from[put:put+1] + text[at+seq.next(2):]
			}
			if got, ok := impl.ReadPrint(text); ok {
				read++
				if impl.PrintOf(got) != text {
					t.Errorf("PrintOf ReadPrint(%q) = %q", text, impl.PrintOf(got))
				}
			}
		}
	}
	for _, text := range textsOf("A=\n\f", 7) {
		if got, ok := impl.ReadPrint(text); ok {
			read++
			if impl.PrintOf(got) != text {
				t.Errorf("PrintOf ReadPrint(%q) = %q", text, impl.PrintOf(got))
			}
		}
	}
	if read < 1000 {
		t.Errorf("only %d texts are read", read)
	}
}

func TestP182MusicCanBePrinted(t *testing.T) {
	printed := 0
	for _, notes := range scores() {
		cells := impl.MusicCells(notes)
		text := impl.PrintOf([][][]int{{cells}})
		if len(cells) > 40 {
			if text != "" {
				t.Errorf("PrintOf of %d cells of music = %q", len(cells), text)
			}
			continue
		}
		printed++
		pages, ok := impl.ReadPrint(text)
		if !ok || len(pages) != 1 || len(pages[0]) != 1 {
			t.Errorf("ReadPrint(%q) = %v, %t", text, pages, ok)
			continue
		}
		wantMusic(t, pages[0][0], notes)
	}
	if printed < 1000 {
		t.Errorf("only %d scores are printed", printed)
	}
}

func TestP196CharactersStandSideBySide(t *testing.T) {
	for _, cells := range cellLists() {
		half := len(cells) / 2
		if got := impl.AsciiOf(cells); got != impl.AsciiOf(cells[:half])+impl.AsciiOf(cells[half:]) {
			t.Errorf("AsciiOf(%v) = %q", cells, got)
		}
	}
}

func TestP197PagesArePrintedOneAfterTheOther(t *testing.T) {
	for _, pages := range printable() {
		if len(pages) > 0 {
			if got := impl.PrintOf(pages); got != impl.PrintOf(pages[:1])+impl.PrintOf(pages[1:]) {
				t.Errorf("PrintOf(%v) = %q", pages, got)
			}
		}
	}
}

func TestPrintsAreNewMemory(t *testing.T) {
	// The lines of the pages stand in one list.
	all := append(make([]int, 0, 30), 1, 3, 9, 25, 17)
	pages := [][][]int{{all[0:2], all[2:2]}, {all[2:5]}}
	for range 2 {
		if text := impl.PrintOf(pages); text != "AB\n\n\fCDE\n\f" {
			t.Errorf("PrintOf = %q", text)
		}
		if text := impl.AsciiOf(all); text != "ABCDE" {
			t.Errorf("AsciiOf = %q", text)
		}
		cells, _ := impl.CellsOfAscii("ABCDE")
		wantCells(t, "CellsOfAscii", cells, all)
		fillCapacity(cells)
		read, _ := impl.ReadPrint("AB\n\n\fCDE\n\f")
		wantPages(t, "ReadPrint", read, pages)
		wantPagesApart(t, "ReadPrint", read)
		wantCells(t, "the cells after the calls", all[:7], []int{1, 3, 9, 25, 17, 0, 0})
	}
}
