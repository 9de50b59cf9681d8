package tests

import (
	"fmt"
	"strings"
	"testing"

	"loop.example/braille/impl"
)

// writtenCells are texts with their cells, where N, C and L are the signs for
// numbers, capital letters and letters.
var writtenCells = []struct{ text, cells string }{
	{"", ""},
	{" ", "0"},
	{"  ", "0-0"},
	{"word", "2456-135-1235-145"},
	// Digits have one sign for as many as there are directly one after the other.
	{"0", "N-245"},
	{"2026", "N-12-245-12-124"},
	{"1 2", "N-1-0-N-12"},
	{"1.5", "N-1-256-N-15"},
	{"1-2", "N-1-36-N-12"},
	{"12,", "N-1-12-2"},
	{"a1", "1-N-1"},
	// SignLetter is before the small letters a to j directly after a digit.
	{"1a", "N-1-L-1"},
	{"1j", "N-1-L-245"},
	{"1k", "N-1-13"},
	{"1ka", "N-1-13-1"},
	{"1z", "N-1-1356"},
	{"1ab", "N-1-L-1-12"},
	{"1aB", "N-1-L-1-C-12"},
	{"1 a", "N-1-0-1"},
	{"1.a", "N-1-256-1"},
	{"1a1", "N-1-L-1-N-1"},
	{"1a1a", "N-1-L-1-N-1-L-1"},
	{"a1b", "1-N-1-L-12"},
	{"ab", "1-12"},
	{".a", "256-1"},
	// A capital letter after a digit has its own sign, and needs no other one.
	{"1A", "N-1-C-1"},
	{"1Ab", "N-1-C-1-12"},
	{"1AB", "N-1-C-C-1-12"},
	{"1K", "N-1-C-13"},
	// A run of capital letters has the sign twice, a single one once.
	{"A", "C-1"},
	{"AB", "C-C-1-12"},
	{"ABC", "C-C-1-12-14"},
	{"ABc", "C-1-C-12-14"},
	{"aBC", "1-C-12-C-14"},
	{"Ab", "C-1-12"},
	{"aB", "1-C-12"},
	{"aBa", "1-C-12-1"},
	{"A B", "C-1-0-C-12"},
	{"A.B", "C-1-256-C-12"},
	{"A1B", "C-1-N-1-C-12"},
	{"AB CD", "C-C-1-12-0-C-C-14-145"},
	{"AB-c", "C-C-1-12-36-14"},
	{"AB1", "C-C-1-12-N-1"},
	{"AB1c", "C-C-1-12-N-1-L-14"},
	{"WZ", "C-C-2456-1356"},
	// Marks stand for themselves.
	{".,;:!?'-", "256-2-23-25-235-236-3-36"},
	{"it's", "24-2345-3-234"},
	{"Oh, I see!", "C-135-125-2-0-C-24-0-234-15-15-235"},
}

// cellsWritten returns the cells that a text of writtenCells tells.
func cellsWritten(t *testing.T, text string) []int {
	text = strings.NewReplacer("N", "3456", "C", "6", "L", "56").Replace(text)
	cells, ok := impl.ParseCells(text)
	if !ok {
		t.Fatalf("%q is no text of cells", text)
	}
	return cells
}

// signs returns the signs of a text.
func signs() []int {
	return []int{impl.SignNumber, impl.SignCapital, impl.SignLetter}
}

func TestSigns(t *testing.T) {
	wantCells(t, "the signs", signs(), []int{cellOfDots("3456"), cellOfDots("6"), cellOfDots("56")})
}

func TestValidText(t *testing.T) {
	for c := 0; c < 256; c++ {
		s := string([]byte{byte(c)})
		want := strings.Contains(characters, s)
		if impl.ValidText(s) != want || impl.ValidText("a"+s) != want || impl.ValidText(s+"1") != want {
			t.Errorf("ValidText(%q) is not %t", s, want)
		}
	}
	for _, part := range []string{"a", "Z", "9", " ", "?"} {
		if !impl.ValidText(strings.Repeat(part, 60)) || impl.ValidText(strings.Repeat(part, 61)) {
			t.Errorf("ValidText of %q does not end at 60 characters", part)
		}
	}
	if !impl.ValidText("") || impl.ValidText(strings.Repeat("a", 100000)) {
		t.Error("ValidText of no characters, or of very many")
	}
}

func TestP14TextsCanBeCut(t *testing.T) {
	for _, s := range plainTexts() {
		for many := 0; many <= len(s); many++ {
			if !impl.ValidText(s[:many]) {
				t.Errorf("ValidText(%q) is false", s[:many])
			}
		}
	}
}

func TestPlainCells(t *testing.T) {
	for _, c := range writtenCells {
		wantCells(t, fmt.Sprintf("PlainCells(%q)", c.text), impl.PlainCells(c.text), cellsWritten(t, c.cells))
	}
	for i := range len(noCharacters) {
		for _, s := range []string{noCharacters[i : i+1], "a" + noCharacters[i:i+1], noCharacters[i:i+1] + "1"} {
			wantCells(t, fmt.Sprintf("PlainCells(%q)", s), impl.PlainCells(s), nil)
		}
	}
	wantCells(t, "PlainCells of 60 letters", impl.PlainCells(strings.Repeat("a", 60)), filled(60, 1))
	wantCells(t, "PlainCells of 61 letters", impl.PlainCells(strings.Repeat("a", 61)), nil)
}

func TestP15PlainTextsAreReadBack(t *testing.T) {
	for _, c := range writtenCells {
		if s, ok := impl.PlainText(cellsWritten(t, c.cells)); !ok || s != c.text {
			t.Errorf("PlainText of %s = %q, %t, want %q", c.cells, s, ok, c.text)
		}
	}
	for _, text := range plainTexts() {
		if s, ok := impl.PlainText(impl.PlainCells(text)); !ok || s != text {
			t.Errorf("PlainText of PlainCells(%q) = %q, %t", text, s, ok)
		}
	}
}

func TestP16PlainTextsAreAtMostTwiceAsLong(t *testing.T) {
	for _, s := range plainTexts() {
		many := len(impl.PlainCells(s))
		if many < len(s) || many > 2*len(s) {
			t.Errorf("PlainCells(%q) has %d cells", s, many)
		}
	}
	if len(impl.PlainCells(strings.Repeat("1a", 30))) != 120 || len(impl.PlainCells(strings.Repeat("a", 60))) != 60 {
		t.Error("PlainCells of the longest texts")
	}
}

func TestP17SpacesPartTexts(t *testing.T) {
	for _, s := range plainTexts() {
		for i := range len(s) {
			if s[i] == ' ' {
				want := joined(impl.PlainCells(s[:i]), []int{0}, impl.PlainCells(s[i+1:]))
				wantCells(t, fmt.Sprintf("PlainCells(%q)", s), impl.PlainCells(s), want)
			}
		}
	}
}

// textsByCells returns the texts with at most many cells, by their cells as
// text. No text has more characters than cells.
func textsByCells(many int) map[string]string {
	texts := map[string]string{}
	for _, s := range textsOf(characters, many) {
		cells := impl.PlainCells(s)
		if len(cells) <= many {
			texts[fmt.Sprint(cells)] = s
		}
	}
	return texts
}

func TestP18PlainCellsAreWrittenBack(t *testing.T) {
	texts := textsByCells(3)
	lists := [][]int{{}}
	for n := 0; n < len(lists); n++ {
		text, ok := impl.PlainText(lists[n])
		want, found := texts[fmt.Sprint(lists[n])]
		if ok != found || text != want {
			t.Errorf("PlainText(%v) = %q, %t, want %q, %t", lists[n], text, ok, want, found)
		}
		if ok && !equal(impl.PlainCells(text), lists[n]) {
			t.Errorf("PlainCells(%q) = %v, want %v", text, impl.PlainCells(text), lists[n])
		}
		for cell := 0; cell < 64 && len(lists[n]) < 3; cell++ {
			lists = append(lists, joined(lists[n], []int{cell}))
		}
	}
}

func TestP18ChangedCellsAreWrittenBackOrNotRead(t *testing.T) {
	seq := sequence{3}
	for _, s := range plainTexts() {
		cells := impl.PlainCells(s)
		if len(cells) == 0 {
			continue
		}
		at := seq.next(len(cells))
		sign := signs()[seq.next(3)]
		for _, list := range [][]int{
			joined(cells[:at], cells[at+1:]),
			joined(cells[:at], []int{sign}, cells[at:]),
			joined(cells[:at], []int{seq.next(64)}, cells[at+1:]),
			joined(cells, []int{sign}),
			reversed(cells),
		} {
			text, ok := impl.PlainText(list)
			if ok && !equal(impl.PlainCells(text), list) || !ok && text != "" {
				t.Errorf("PlainText(%v) = %q, %t", list, text, ok)
			}
		}
	}
}

func TestP18CellsThatAreNoText(t *testing.T) {
	for _, cells := range []string{
		"N", "C", "L", "C-C", "C-C-C", "C-L", "N-L", // signs for nothing
		"C-C-1", "C-1-C-12", "C-C-1-C-12", "C-C-1-C-C-12", "C-C-C-1-12", // wrong signs for capital letters
		"N-N-1", "N-1-N-1", "N-13", "N-0", "N-256", "N-1-N", // signs for no digits
		"L-1", "1-L-1", "N-1-L-13", "N-1-L-L-1", "N-1-0-L-1", "N-1-L-C-1", "N-1-L", "N-1-L-N-1", // signs for no letters like digits
		"C-0", "C-36", "C-C-0", "C-N-1", "C-C-N-1", "C-C-1-12-0-C", // signs for no letters
		"123456", "1-123456", "4", "45", "N-4", // cells of nothing
	} {
		if s, ok := impl.PlainText(cellsWritten(t, cells)); ok || s != "" {
			t.Errorf("PlainText of %s = %q, %t", cells, s, ok)
		}
	}
	for _, n := range noCells {
		for _, list := range [][]int{{n}, {1, n}, {n, 1}, {60, n}, {32, n}} {
			if s, ok := impl.PlainText(list); ok || s != "" {
				t.Errorf("PlainText(%v) = %q, %t", list, s, ok)
			}
		}
	}
}

func TestPlainTextAtTheLimit(t *testing.T) {
	for _, cell := range []int{0, 1, 50} {
		if s, ok := impl.PlainText(filled(60, cell)); !ok || len(s) != 60 {
			t.Errorf("PlainText of 60 times %d = %q, %t", cell, s, ok)
		}
		for _, many := range []int{61, 200, 201, 100000} {
			if s, ok := impl.PlainText(filled(many, cell)); ok || s != "" {
				t.Errorf("PlainText of %d times %d = %q, %t", many, cell, s, ok)
			}
		}
	}
	if s, ok := impl.PlainText(append([]int{60}, filled(60, 1)...)); !ok || s != strings.Repeat("1", 60) {
		t.Errorf("PlainText of 60 digits = %q, %t", s, ok)
	}
	if s, ok := impl.PlainText(append([]int{60}, filled(61, 1)...)); ok || s != "" {
		t.Errorf("PlainText of 61 digits = %q, %t", s, ok)
	}
	if s, ok := impl.PlainText(nil); !ok || s != "" {
		t.Errorf("PlainText of nothing = %q, %t", s, ok)
	}
}

func TestP19SpacesAreShown(t *testing.T) {
	for _, s := range plainTexts() {
		cells := impl.PlainCells(s)
		text, ok := impl.PlainText(cells)
		if !ok || strings.Count(text, " ") != count(cells, 0) {
			t.Errorf("PlainText(%v) = %q, %t", cells, text, ok)
		}
	}
}

func TestP184SignsAreWhereTheyAreNeeded(t *testing.T) {
	for _, s := range plainTexts() {
		begun := 0
		for i := range len(s) {
			if strings.Contains(digits, s[i:i+1]) && (i == 0 || !strings.Contains(digits, s[i-1:i])) {
				begun++
			}
		}
		cells := impl.PlainCells(s)
		if count(cells, impl.SignNumber) != begun {
			t.Errorf("PlainCells(%q) = %v, want SignNumber %d times", s, cells, begun)
		}
		if (count(cells, impl.SignCapital) > 0) != capitals(s) {
			t.Errorf("PlainCells(%q) = %v has SignCapital, or has not", s, cells)
		}
	}
}

func TestPlainTextsAreNewMemory(t *testing.T) {
	cells := []int{60, 1, 48, 1}
	impl.PlainText(cells)
	wantCells(t, "the cells after the call", cells, []int{60, 1, 48, 1})
	first := impl.PlainCells("1a")
	first[0] = 63
	wantCells(t, "PlainCells after a change of its result", impl.PlainCells("1a"), []int{60, 1, 48, 1})
}
