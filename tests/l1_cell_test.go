package tests

import (
	"strings"
	"testing"

	"loop.example/braille/impl"
)

// textOfDots returns the text of a cell with some dots.
func textOfDots(dots []int) string {
	text := ""
	for _, dot := range dots {
		text += digits[dot : dot+1]
	}
	if text == "" {
		return "0"
	}
	return text
}

func TestValidCells(t *testing.T) {
	for _, list := range cellLists() {
		if !impl.ValidCells(list) {
			t.Errorf("ValidCells(%v) is false", list)
		}
	}
	for _, n := range noCells {
		for _, list := range [][]int{{n}, {n, 0}, {0, n}, {63, n, 1}} {
			if impl.ValidCells(list) {
				t.Errorf("ValidCells(%v) is true", list)
			}
		}
	}
	if !impl.ValidCells(filled(200, 1)) || impl.ValidCells(filled(201, 1)) || impl.ValidCells(filled(100000, 1)) {
		t.Error("ValidCells does not end at 200 cells")
	}
}

func TestP1BeginningsOfCells(t *testing.T) {
	for _, list := range cellLists() {
		for many := range list {
			if !impl.ValidCells(list[:many]) {
				t.Errorf("ValidCells(%v) is false", list[:many])
			}
			dots := impl.DotsOf(list[many])
			wantCells(t, "DotsOf of CellOf", impl.DotsOf(impl.CellOf(dots)), dots)
		}
	}
}

func TestDotsOf(t *testing.T) {
	for cell, dots := range map[int][]int{0: nil, 1: {1}, 2: {2}, 4: {3}, 8: {4}, 16: {5}, 32: {6}, 58: {2, 4, 5, 6}, 60: {3, 4, 5, 6}, 63: {1, 2, 3, 4, 5, 6}} {
		wantCells(t, "DotsOf", impl.DotsOf(cell), dots)
	}
	for _, n := range noCells {
		wantCells(t, "DotsOf of no cell", impl.DotsOf(n), nil)
	}
}

func TestP2CellsAreTheirDots(t *testing.T) {
	for cell := 0; cell < 64; cell++ {
		dots := impl.DotsOf(cell)
		if impl.CellOf(dots) != cell {
			t.Errorf("CellOf(%v) = %d, want %d", dots, impl.CellOf(dots), cell)
		}
		last := 0
		for _, dot := range dots {
			if dot <= last || dot > 6 {
				t.Errorf("DotsOf(%d) = %v", cell, dots)
			}
			last = dot
		}
	}
}

func TestP3DotsMakeCells(t *testing.T) {
	for _, dots := range dotLists() {
		want := 0
		for _, dot := range dots {
			want += []int{0, 1, 2, 4, 8, 16, 32}[dot]
		}
		if impl.CellOf(dots) != want {
			t.Errorf("CellOf(%v) = %d, want %d", dots, impl.CellOf(dots), want)
		}
		wantCells(t, "DotsOf of CellOf", impl.DotsOf(impl.CellOf(dots)), dots)
	}
	for _, list := range [][]int{{0}, {7}, {-1}, {1, 1}, {2, 1}, {6, 6}, {1, 2, 7}, {0, 1}, {1, 3, 2}, {1, 2, 3, 4, 5, 6, 6}, {1, 2, 3, 4, 5, 6, 7}, {-1 << 63}, {1<<63 - 1}, {1, 65}, filled(1000, 1)} {
		if impl.CellOf(list) != -1 {
			t.Errorf("CellOf(%v) = %d, want -1", list, impl.CellOf(list))
		}
	}
}

func TestP4CellsFromBehind(t *testing.T) {
	for cell := 0; cell < 64; cell++ {
		mirror := impl.Mirror(cell)
		if impl.Mirror(mirror) != cell {
			t.Errorf("Mirror(%d) = %d, want %d", mirror, impl.Mirror(mirror), cell)
		}
		dots, behind := impl.DotsOf(cell), impl.DotsOf(mirror)
		for _, side := range [][2]int{{1, 4}, {2, 5}, {3, 6}, {4, 1}, {5, 2}, {6, 3}} {
			if count(dots, side[0]) != count(behind, side[1]) {
				t.Errorf("Mirror(%d) has the dots %v", cell, behind)
			}
		}
	}
	for _, n := range noCells {
		if impl.Mirror(n) != -1 {
			t.Errorf("Mirror(%d) = %d, want -1", n, impl.Mirror(n))
		}
	}
}

func TestFormatCells(t *testing.T) {
	for _, dots := range dotLists() {
		if text := impl.FormatCells([]int{impl.CellOf(dots)}); text != textOfDots(dots) {
			t.Errorf("FormatCells of %v = %q", dots, text)
		}
	}
	for _, n := range noCells {
		if text := impl.FormatCells([]int{1, n}); text != "" {
			t.Errorf("FormatCells with %d = %q, want nothing", n, text)
		}
	}
	if impl.FormatCells(nil) != "" || impl.FormatCells([]int{1, 3, 0, 57}) != "1-12-0-1456" {
		t.Error("FormatCells of no cells, or of four")
	}
	if impl.FormatCells(filled(200, 0)) != strings.Repeat("-0", 200)[1:] || impl.FormatCells(filled(201, 0)) != "" {
		t.Error("FormatCells does not end at 200 cells")
	}
}

func TestP5TextsOfCellsAreReadBack(t *testing.T) {
	for _, list := range cellLists() {
		back, ok := impl.ParseCells(impl.FormatCells(list))
		if !ok || !equal(back, list) {
			t.Errorf("ParseCells of FormatCells(%v) = %v, %t", list, back, ok)
		}
	}
}

func TestP6TextsOfCellsStandSideBySide(t *testing.T) {
	for _, list := range cellLists() {
		if len(list) < 2 {
			continue
		}
		want := impl.FormatCells(list[:1]) + "-" + impl.FormatCells(list[1:])
		if impl.FormatCells(list) != want {
			t.Errorf("FormatCells(%v) = %q, want %q", list, impl.FormatCells(list), want)
		}
	}
}

func TestP7TextsOfCellsAreWrittenBack(t *testing.T) {
	// The texts are all short ones of these characters, and whether they are
	// those of cells is told by whether all of their parts are among the 64.
	parts := map[string]bool{}
	for _, dots := range dotLists() {
		parts[textOfDots(dots)] = true
	}
	for _, s := range textsOf("0126-7 ", 5) {
		want := true
		for _, part := range strings.Split(s, "-") {
			want = want && (s == "" || parts[part])
		}
		list, ok := impl.ParseCells(s)
		if ok != want || ok && impl.FormatCells(list) != s || !ok && len(list) != 0 {
			t.Errorf("ParseCells(%q) = %v, %t", s, list, ok)
		}
	}
}

func TestParseCellsOfOtherTexts(t *testing.T) {
	for _, s := range []string{"-", "--", "1-", "-1", "1--2", "21", "11", "00", "01", "10", "7", "8", "9", "17", "1 2", " 1", "1 ", "1\n", "a", "1,2", "1-a", "/", ":", "1234567", "1-1234561", "+1", "\xb1", "1\x00", strings.Repeat("1", 100000)} {
		if list, ok := impl.ParseCells(s); ok || len(list) != 0 {
			t.Errorf("ParseCells(%q) = %v, %t", s, list, ok)
		}
	}
	for c := 0; c < 256; c++ {
		s := string([]byte{byte(c)})
		if _, ok := impl.ParseCells(s); ok != strings.Contains("0123456", s) {
			t.Errorf("ParseCells(%q) gives %t", s, ok)
		}
		if _, ok := impl.ParseCells("1" + s); ok != strings.Contains("23456", s) {
			t.Errorf("ParseCells(%q) gives %t", "1"+s, ok)
		}
	}
}

func TestParseCellsAtTheLimit(t *testing.T) {
	for _, part := range []string{"0", "1", "123456"} {
		full := strings.Repeat("-"+part, 200)[1:]
		if list, ok := impl.ParseCells(full); !ok || len(list) != 200 {
			t.Errorf("ParseCells of 200 times %s has %d cells", part, len(list))
		}
		for _, more := range []string{"-" + part, "-", "-x", strings.Repeat("-"+part, 200)} {
			if list, ok := impl.ParseCells(full + more); ok || len(list) != 0 {
				t.Errorf("ParseCells of 200 times %s and %q succeeds", part, more)
			}
		}
	}
}

func TestP183CellsHaveLinesBetweenThem(t *testing.T) {
	for _, list := range cellLists() {
		s := impl.FormatCells(list)
		back, ok := impl.ParseCells(s)
		if s != "" && (!ok || len(back) != strings.Count(s, "-")+1) {
			t.Errorf("ParseCells(%q) has %d cells", s, len(back))
		}
	}
	if list, ok := impl.ParseCells(""); !ok || len(list) != 0 {
		t.Errorf("ParseCells of nothing = %v, %t", list, ok)
	}
}

func TestCellsAreNewMemory(t *testing.T) {
	list := []int{1, 4, 5, 0}
	dots := []int{1, 4, 5}
	impl.ValidCells(list)
	impl.FormatCells(list)
	impl.CellOf(dots)
	wantCells(t, "the list after the calls", list, []int{1, 4, 5, 0})
	wantCells(t, "the dots after the calls", dots, []int{1, 4, 5})
	first, _ := impl.ParseCells("1-12")
	some := impl.DotsOf(60)
	first[0], some[0] = 63, 6
	second, _ := impl.ParseCells("1-12")
	wantCells(t, "ParseCells after a change of its result", second, []int{1, 3})
	wantCells(t, "DotsOf after a change of its result", impl.DotsOf(60), []int{3, 4, 5, 6})
}
