package tests

import (
	"testing"

	"loop.example/braille/impl"
)

// letterDots are the dots of the letters a to z.
var letterDots = []string{
	"1", "12", "14", "145", "15", "124", "1245", "125", "24", "245",
	"13", "123", "134", "1345", "135", "1234", "12345", "1235", "234", "2345",
	"136", "1236", "2456", "1346", "13456", "1356",
}

// markDots are the dots of the punctuation marks.
var markDots = map[string]string{".": "256", ",": "2", ";": "23", ":": "25", "!": "235", "?": "236", "'": "3", "-": "36"}

// cellOfDots returns the cell whose dots a text tells.
func cellOfDots(text string) int {
	var dots []int
	for _, c := range text {
		dots = append(dots, int(c-'0'))
	}
	return impl.CellOf(dots)
}

func TestLetterCell(t *testing.T) {
	for n, dots := range letterDots {
		if impl.LetterCell(n) != cellOfDots(dots) {
			t.Errorf("LetterCell(%d) = %d, want the dots %s", n, impl.LetterCell(n), dots)
		}
	}
	for _, n := range []int{-1, 26, 27, -26, 1 << 32, -1 << 63, 1<<63 - 1} {
		if impl.LetterCell(n) != -1 {
			t.Errorf("LetterCell(%d) = %d, want -1", n, impl.LetterCell(n))
		}
	}
}

func TestP8LettersAreFoundAgain(t *testing.T) {
	for n := 0; n < 26; n++ {
		cell := impl.LetterCell(n)
		if impl.LetterOf(cell) != n {
			t.Errorf("LetterOf(%d) = %d, want %d", cell, impl.LetterOf(cell), n)
		}
		dots := impl.DotsOf(cell)
		if count(dots, 1)+count(dots, 2)+count(dots, 4)+count(dots, 5) == 0 {
			t.Errorf("LetterCell(%d) has the dots %v", n, dots)
		}
	}
}

func TestP9LettersComeInDecades(t *testing.T) {
	for n := 0; n < 10; n++ {
		first, second := impl.LetterCell(n), impl.LetterCell(n+10)
		if count(impl.DotsOf(first), 3) != 0 || second != first+impl.CellOf([]int{3}) {
			t.Errorf("LetterCell(%d) = %d, and LetterCell(%d) = %d", n, first, n+10, second)
		}
	}
}

func TestP10CellsOfLettersAreLetters(t *testing.T) {
	many := 0
	for cell := -2; cell <= 66; cell++ {
		n := impl.LetterOf(cell)
		if n == -1 {
			continue
		}
		many++
		if impl.LetterCell(n) != cell {
			t.Errorf("LetterOf(%d) = %d, but LetterCell(%d) = %d", cell, n, n, impl.LetterCell(n))
		}
	}
	if many != 26 {
		t.Errorf("there are %d cells of letters", many)
	}
	for _, n := range append([]int{0, 2, 4, 32, 48, 60, 63}, noCells...) {
		if impl.LetterOf(n) != -1 {
			t.Errorf("LetterOf(%d) = %d, want -1", n, impl.LetterOf(n))
		}
	}
}

func TestP11DigitsLookLikeLetters(t *testing.T) {
	for d := 0; d < 10; d++ {
		cell := impl.DigitCell(d)
		if cell != impl.LetterCell((d+9)%10) || impl.DigitOf(cell) != d {
			t.Errorf("DigitCell(%d) = %d, and DigitOf it %d", d, cell, impl.DigitOf(cell))
		}
	}
	for _, d := range []int{-1, 10, 11, -10, 1 << 32, -1 << 63, 1<<63 - 1} {
		if impl.DigitCell(d) != -1 {
			t.Errorf("DigitCell(%d) = %d, want -1", d, impl.DigitCell(d))
		}
	}
}

func TestP12CellsOfDigitsAreCellsOfLetters(t *testing.T) {
	many := 0
	for cell := -2; cell <= 66; cell++ {
		d := impl.DigitOf(cell)
		if d == -1 {
			continue
		}
		many++
		if impl.DigitCell(d) != cell || impl.LetterOf(cell) < 0 || impl.LetterOf(cell) > 9 {
			t.Errorf("DigitOf(%d) = %d, but DigitCell(%d) = %d", cell, d, d, impl.DigitCell(d))
		}
	}
	if many != 10 {
		t.Errorf("there are %d cells of digits", many)
	}
	for _, n := range append([]int{0, 2, 5, 58, 60, 63}, noCells...) {
		if impl.DigitOf(n) != -1 {
			t.Errorf("DigitOf(%d) = %d, want -1", n, impl.DigitOf(n))
		}
	}
}

func TestMarkCell(t *testing.T) {
	for s, dots := range markDots {
		if impl.MarkCell(s) != cellOfDots(dots) {
			t.Errorf("MarkCell(%q) = %d, want the dots %s", s, impl.MarkCell(s), dots)
		}
	}
	for _, s := range textsOf(characters+noCharacters, 2) {
		if _, ok := markDots[s]; !ok && impl.MarkCell(s) != -1 {
			t.Errorf("MarkCell(%q) = %d, want -1", s, impl.MarkCell(s))
		}
	}
}

func TestP13MarksAreNoLetters(t *testing.T) {
	for s := range markDots {
		cell := impl.MarkCell(s)
		if impl.LetterOf(cell) != -1 || cell == impl.SignNumber || cell == impl.SignCapital || cell == impl.SignLetter {
			t.Errorf("MarkCell(%q) = %d is a letter or a sign", s, cell)
		}
		wantCells(t, "PlainCells of "+s, impl.PlainCells(s), []int{cell})
	}
}
