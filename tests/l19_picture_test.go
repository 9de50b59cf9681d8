package tests

import (
	"fmt"
	"testing"

	"loop.example/braille/impl"
)

func TestLimitsOfPictures(t *testing.T) {
	if impl.MaxSide != 24 || impl.MaxShrink != 6 {
		t.Errorf("MaxSide and MaxShrink are %d and %d", impl.MaxSide, impl.MaxShrink)
	}
}

func TestValidPicture(t *testing.T) {
	for _, p := range pictures() {
		if !impl.ValidPicture(p) {
			t.Errorf("ValidPicture(%v) is false", p)
		}
	}
	for _, p := range noPictures() {
		if impl.ValidPicture(p) {
			t.Errorf("ValidPicture(%.300s) is true", fmt.Sprint(p))
		}
	}
	for n := -66; n <= 66; n++ {
		want := n == 0 || n == 1
		if impl.ValidPicture([][]int{{n}}) != want || impl.ValidPicture([][]int{{0, 1}, {1, n}}) != want || impl.ValidPicture([][]int{{n, 1}, {1, 0}}) != want {
			t.Errorf("ValidPicture with the number %d is not %t", n, want)
		}
	}
}

func TestPicturesAtTheLimits(t *testing.T) {
	for rows := 0; rows <= 27; rows++ {
		for columns := 0; columns <= 27; columns++ {
			p := block(rows, columns, 1)
			want := rows >= 1 && rows <= 24 && columns >= 1 && columns <= 24
			if impl.ValidPicture(p) != want {
				t.Errorf("ValidPicture of %d rows of %d dots is not %t", rows, columns, want)
			}
			if want {
				wantLists(t, fmt.Sprintf("PictureCells(%v)", p), impl.PictureCells(p), cellsDrawn(p))
				wantLists(t, fmt.Sprintf("Invert(%v)", p), impl.Invert(p), block(rows, columns, 0))
				wantLists(t, fmt.Sprintf("Shrink(%v, 5)", p), impl.Shrink(p, 5), block((rows+4)/5, (columns+4)/5, 1))
			}
		}
	}
}

func TestPictureCells(t *testing.T) {
	for _, c := range []struct {
		picture string
		cells   [][]int
	}{
		{"#", [][]int{{1}}}, {".", [][]int{{0}}}, {".#", [][]int{{8}}}, {"..#", [][]int{{0, 1}}}, {". #", [][]int{{2}}}, {". . #", [][]int{{4}}}, {". . . #", [][]int{{0}, {1}}},
		{"## ## ##", [][]int{{63}}}, {"### ### ###", [][]int{{63, 7}}}, {"## ## ## ##", [][]int{{63}, {9}}}, {"### ### ### ###", [][]int{{63, 7}, {9, 1}}}, {"## ##", [][]int{{27}}}, {"# # #", [][]int{{7}}}, {"###", [][]int{{9, 1}}},
		{"#. ## .#", [][]int{{51}}}, {"..# ... ... #..", [][]int{{0, 1}, {1, 0}}}, {"..... ..... ..... ..... ..... ..... ....#", [][]int{{0, 0, 0}, {0, 0, 0}, {0, 0, 1}}}, {"#..#.. ...... .#..#.", [][]int{{33, 8, 4}}},
	} {
		wantLists(t, fmt.Sprintf("PictureCells(%s)", c.picture), impl.PictureCells(picture(c.picture)), c.cells)
	}
	for dot, place := range []dotPlace{{0, 0}, {1, 0}, {2, 0}, {0, 1}, {1, 1}, {2, 1}} {
		p := pictureOf(3, 2, place)
		wantLists(t, fmt.Sprintf("PictureCells(%v)", p), impl.PictureCells(p), [][]int{{1 << dot}})
		wantLists(t, fmt.Sprintf("CellsPicture of the dot %d", dot+1), impl.CellsPicture([][]int{{1 << dot}}), p)
	}
}

func TestPictureCellsOfAllKinds(t *testing.T) {
	for _, p := range pictures() {
		wantLists(t, fmt.Sprintf("PictureCells(%v)", p), impl.PictureCells(p), cellsDrawn(p))
	}
	for _, p := range noPictures() {
		wantNone(t, "PictureCells", p, impl.PictureCells(p))
	}
}

func TestDotsAtTheCornerAreInTheLastCell(t *testing.T) {
	for rows := 1; rows <= 24; rows++ {
		for columns := 1; columns <= 24; columns++ {
			want := block((rows+2)/3, (columns+1)/2, 0)
			want[len(want)-1][len(want[0])-1] = 1 << ((rows-1)%3 + 3*((columns-1)%2))
			p := pictureOf(rows, columns, dotPlace{rows - 1, columns - 1})
			wantLists(t, fmt.Sprintf("PictureCells(%v)", p), impl.PictureCells(p), want)
		}
	}
}

func TestCellsPicture(t *testing.T) {
	for _, c := range []struct {
		rows    [][]int
		picture string
	}{
		{[][]int{{0}}, ".. .. .."}, {[][]int{{63}}, "## ## ##"}, {[][]int{{51}}, "#. ## .#"}, {[][]int{{1, 8}}, "#..# .... ...."}, {[][]int{{4}, {32}}, ".. .. #. .. .. .#"}, {[][]int{{7, 56}, {18, 45}}, "#..# #..# #..# ..## ##.. ..##"},
	} {
		wantLists(t, fmt.Sprintf("CellsPicture(%v)", c.rows), impl.CellsPicture(c.rows), picture(c.picture))
	}
	for _, rows := range cellRows() {
		wantLists(t, fmt.Sprintf("CellsPicture(%v)", rows), impl.CellsPicture(rows), dotsDrawn(rows))
	}
	for _, rows := range noCellRows() {
		wantNone(t, "CellsPicture", rows, impl.CellsPicture(rows))
	}
	for rows := 0; rows <= 10; rows++ {
		for columns := 0; columns <= 14; columns++ {
			cells := block(rows, columns, 63)
			if rows >= 1 && rows <= 8 && columns >= 1 && columns <= 12 {
				wantLists(t, fmt.Sprintf("CellsPicture(%v)", cells), impl.CellsPicture(cells), block(3*rows, 2*columns, 1))
			} else {
				wantNone(t, "CellsPicture", cells, impl.CellsPicture(cells))
			}
		}
	}
}

func TestShrink(t *testing.T) {
	for _, c := range []struct {
		picture string
		k       int
		small   string
	}{
		// Less than half, exactly half, and more than half of a square.
		{"#. ..", 2, "."}, {"#. .#", 2, "#"}, {".. ##", 2, "#"}, {"## #.", 2, "#"}, {"##. #.. .#.", 3, "."}, {"##. #.. .##", 3, "#"},
		// Squares that are cut at the right, at the bottom, and at the corner.
		{"..#", 2, ".#"}, {"..# ...", 2, ".#"}, {"..# ..#", 2, ".#"}, {".. .. #.", 2, ". #"}, {".. .. .#", 2, ". #"}, {"... ... ..#", 2, ".. .#"}, {"... ... ...", 2, ".. .."}, {"### ### ##.", 2, "## #."}, {"#.. ..#", 2, ".#"},
		{"....#. ......", 4, ".."}, {"....#. .....#", 4, ".#"}, {"....#. ...... ....#.", 4, ".."}, {".......#", 5, ".."}, {"......##", 5, ".#"}, {"......#", 5, ".#"},
		// One square that the picture does not fill.
		{"#. ## .#", 6, "#"}, {"#. .. .#", 6, "."}, {"##. ..#", 4, "#"}, {"#", 6, "#"}, {".", 6, "."}, {"#......", 6, ".."}, {"###....", 6, "#."}, {"......#", 6, ".#"},
	} {
		wantLists(t, fmt.Sprintf("Shrink(%s, %d)", c.picture, c.k), impl.Shrink(picture(c.picture), c.k), picture(c.small))
	}
}

func TestShrinkOfAllKinds(t *testing.T) {
	for _, p := range pictures() {
		for k := 1; k <= 6; k++ {
			wantLists(t, fmt.Sprintf("Shrink(%v, %d)", p, k), impl.Shrink(p, k), shrunk(p, k))
		}
	}
	for _, p := range noPictures() {
		for k := 1; k <= 6; k++ {
			wantNone(t, "Shrink", p, impl.Shrink(p, k))
		}
	}
}

func TestShrinkByOtherNumbers(t *testing.T) {
	for _, k := range append([]int{0, -1, -2, -6, 7, 8, 12, 24, 25}, far...) {
		for _, p := range append(drawn(), picture("#"), picture("."), nil, [][]int{{2}}) {
			wantNone(t, fmt.Sprintf("Shrink by %d", k), p, impl.Shrink(p, k))
		}
	}
}

func TestSquaresAreRaisedFromHalfOn(t *testing.T) {
	for rows := 1; rows <= 6; rows++ {
		for columns := 1; columns <= 6; columns++ {
			for many := 0; many <= rows*columns; many++ {
				p := patterned(rows, columns, func(y, x int) bool { return y*columns+x < many })
				want := 0
				if many >= rows*columns-many {
					want = 1
				}
				for k := max(rows, columns); k <= 6; k++ {
					wantLists(t, fmt.Sprintf("Shrink(%v, %d)", p, k), impl.Shrink(p, k), [][]int{{want}})
				}
			}
		}
	}
}

func TestInvert(t *testing.T) {
	for _, c := range []struct{ picture, other string }{{"#", "."}, {".", "#"}, {"#. ## .#", ".# .. #."}, {"##. #..", "..# .##"}} {
		wantLists(t, fmt.Sprintf("Invert(%s)", c.picture), impl.Invert(picture(c.picture)), picture(c.other))
	}
	for _, p := range pictures() {
		want := patterned(len(p), len(p[0]), func(y, x int) bool { return p[y][x] == 0 })
		wantLists(t, fmt.Sprintf("Invert(%v)", p), impl.Invert(p), want)
	}
	for _, p := range noPictures() {
		wantNone(t, "Invert", p, impl.Invert(p))
	}
}

func TestP126PicturesCanLoseRows(t *testing.T) {
	for _, p := range pictures() {
		if impl.ValidPicture(p[1:]) != (len(p) > 1) {
			t.Errorf("ValidPicture(%v) without the first row is not %t", p, len(p) > 1)
		}
		for i := range p {
			if others := append(append([][]int{}, p[:i]...), p[i+1:]...); impl.ValidPicture(others) != (len(p) > 1) {
				t.Errorf("ValidPicture(%v) without the row %d is not %t", p, i, len(p) > 1)
			}
		}
	}
}

func TestP127PicturesAreInTheirCells(t *testing.T) {
	for _, p := range pictures() {
		full := impl.CellsPicture(impl.PictureCells(p))
		if len(full) != (len(p)+2)/3*3 || len(full[0]) != (len(p[0])+1)/2*2 {
			t.Errorf("CellsPicture of PictureCells(%v) = %v", p, full)
			continue
		}
		for y, row := range full {
			for x, dot := range row {
				want := 0
				if y < len(p) && x < len(p[0]) {
					want = p[y][x]
				}
				if dot != want {
					t.Errorf("CellsPicture of PictureCells(%v) = %v", p, full)
				}
			}
		}
	}
}

func TestP128DotsAreRaisedInCells(t *testing.T) {
	for _, p := range pictures() {
		many := 0
		for _, row := range impl.PictureCells(p) {
			for _, cell := range row {
				many += len(impl.DotsOf(cell))
			}
		}
		if many != len(dotsOf(p)) {
			t.Errorf("PictureCells(%v) = %v, with %d dots", p, impl.PictureCells(p), many)
		}
	}
}

func TestP129PicturesCanBeSeenFromBehind(t *testing.T) {
	seen := 0
	for _, p := range pictures() {
		if len(p[0])%2 == 1 {
			continue
		}
		seen++
		want := mirrored(impl.PictureCells(p))
		for _, row := range want {
			for i, cell := range row {
				row[i] = impl.Mirror(cell)
			}
		}
		wantLists(t, fmt.Sprintf("PictureCells(%v) from behind", p), impl.PictureCells(mirrored(p)), want)
	}
	if seen < 1000 {
		t.Errorf("only %d pictures are seen from behind", seen)
	}
}

func TestP130CellsAreInTheirPictures(t *testing.T) {
	for _, rows := range cellRows() {
		wantLists(t, fmt.Sprintf("PictureCells of CellsPicture(%v)", rows), impl.PictureCells(impl.CellsPicture(rows)), rows)
	}
}

func TestP131SmallPicturesHaveADotForEachSquare(t *testing.T) {
	for _, p := range pictures() {
		wantLists(t, fmt.Sprintf("Shrink(%v, 1)", p), impl.Shrink(p, 1), p)
		for k := 1; k <= 6; k++ {
			rows, columns := 0, 0
			for y := 0; y < len(p); y += k {
				rows++
			}
			for x := 0; x < len(p[0]); x += k {
				columns++
			}
			small := impl.Shrink(p, k)
			if !impl.ValidPicture(small) || len(small) != rows || len(small[0]) != columns {
				t.Errorf("Shrink(%v, %d) = %v", p, k, small)
			}
		}
	}
}

func TestP132FullPicturesStayFull(t *testing.T) {
	for rows := 1; rows <= 24; rows++ {
		for columns := 1; columns <= 24; columns++ {
			for k := 1; k <= 6; k++ {
				for dot := range 2 {
					small := impl.Shrink(block(rows, columns, dot), k)
					if len(small) == 0 || fmt.Sprint(small) != fmt.Sprint(block(len(small), len(small[0]), dot)) {
						t.Errorf("Shrink of %d rows of %d times %d by %d = %v", rows, columns, dot, k, small)
					}
				}
			}
		}
	}
}

func TestP133SquaresAreLightOrDark(t *testing.T) {
	both := 0
	for _, p := range pictures() {
		for k := 1; k <= 6; k++ {
			small, other := impl.Shrink(p, k), impl.Shrink(impl.Invert(p), k)
			for y, row := range small {
				for x, dot := range row {
					// The square is cut where the picture ends.
					dots := min(k, len(p)-y*k) * min(k, len(p[0])-x*k)
					if dot+other[y][x] == 2 {
						both++
					}
					if dot+other[y][x] == 0 || dot+other[y][x] == 2 && dots%2 == 1 {
						t.Errorf("Shrink(%v, %d) = %v, and %v of Invert", p, k, small, other)
					}
				}
			}
		}
	}
	if both < 1000 {
		t.Errorf("only %d squares are both", both)
	}
}

func TestP134InvertingTwiceChangesNothing(t *testing.T) {
	for _, p := range pictures() {
		other := impl.Invert(p)
		wantLists(t, fmt.Sprintf("Invert of Invert(%v)", p), impl.Invert(other), p)
		if len(dotsOf(p))+len(dotsOf(other)) != len(p)*len(p[0]) {
			t.Errorf("Invert(%v) = %v", p, other)
		}
	}
}

func TestP198FlatBecomesRaised(t *testing.T) {
	seq := sequence{104}
	check := func(p [][]int) {
		want := impl.PictureCells(p)
		for _, row := range want {
			for i, cell := range row {
				row[i] = 63 - cell
			}
		}
		wantLists(t, fmt.Sprintf("PictureCells of Invert(%v)", p), impl.PictureCells(impl.Invert(p)), want)
	}
	for rows := 3; rows <= 24; rows += 3 {
		for columns := 2; columns <= 24; columns += 2 {
			for _, of := range []int{1, 2, 5} {
				check(randomPicture(&seq, rows, columns, of))
			}
		}
	}
	for _, p := range shortPictures(12) {
		if len(p)%3 == 0 && len(p[0])%2 == 0 {
			check(p)
		}
	}
}

func TestPicturesAreNewMemory(t *testing.T) {
	for _, p := range [][][]int{sharedRows(), picture("#"), picture("#."), block(24, 24, 1)} {
		impl.ValidPicture(p)
		wantNewMemory(t, "PictureCells", p, func() [][]int { return impl.PictureCells(p) })
		wantNewMemory(t, "Invert", p, func() [][]int { return impl.Invert(p) })
		for k := 1; k <= 6; k++ {
			wantNewMemory(t, "Shrink", p, func() [][]int { return impl.Shrink(p, k) })
		}
	}
	for _, rows := range [][][]int{sharedRows(), {{0}}, {{63}}, block(8, 12, 5)} {
		wantNewMemory(t, "CellsPicture", rows, func() [][]int { return impl.CellsPicture(rows) })
	}
}
