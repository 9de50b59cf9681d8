package tests

import (
	"fmt"
	"strings"
	"testing"

	"loop.example/braille/impl"
)

// dotPlace is the row and the column of a dot.
type dotPlace struct{ row, column int }

// distance returns the greater one of the differences of rows and columns.
func (a dotPlace) distance(b dotPlace) int {
	return max(a.row-b.row, b.row-a.row, a.column-b.column, b.column-a.column)
}

// picture returns the picture of rows with spaces between them, in which # is a
// raised dot, and all else is a flat one.
func picture(text string) [][]int {
	var p [][]int
	for _, part := range strings.Fields(text) {
		row := make([]int, len(part))
		for i := range part {
			if part[i] == '#' {
				row[i] = 1
			}
		}
		p = append(p, row)
	}
	return p
}

// block returns rows of the same length of one number.
func block(rows, columns, n int) [][]int {
	all := make([][]int, rows)
	for i := range all {
		all[i] = filled(columns, n)
	}
	return all
}

// replaced returns rows, in new memory, with another number in one place.
func replaced(rows [][]int, row, column, n int) [][]int {
	var all [][]int
	for _, r := range rows {
		all = append(all, joined(r))
	}
	all[row][column] = n
	return all
}

// pictureOf returns the picture with dots raised in some places.
func pictureOf(rows, columns int, dots ...dotPlace) [][]int {
	p := block(rows, columns, 0)
	for _, d := range dots {
		p[d.row][d.column] = 1
	}
	return p
}

// dotsOf returns the places of the raised dots, row by row.
func dotsOf(p [][]int) []dotPlace {
	var all []dotPlace
	for row := range p {
		for column, dot := range p[row] {
			if dot == 1 {
				all = append(all, dotPlace{row, column})
			}
		}
	}
	return all
}

// turned returns a picture with rows and columns exchanged.
func turned(p [][]int) [][]int {
	other := block(len(p[0]), len(p), 0)
	for _, d := range dotsOf(p) {
		other[d.column][d.row] = 1
	}
	return other
}

// mirrored returns rows that are all in reverse order.
func mirrored(rows [][]int) [][]int {
	var all [][]int
	for _, row := range rows {
		all = append(all, reversed(row))
	}
	return all
}

// shortPictures returns all pictures of at most most dots.
func shortPictures(most int) [][][]int {
	var all [][][]int
	for rows := 1; rows <= most; rows++ {
		for columns := 1; columns <= most/rows; columns++ {
			for mask := range 1 << (rows * columns) {
				p := block(rows, columns, 0)
				for i := range rows * columns {
					p[i/columns][i%columns] = mask >> i & 1
				}
				all = append(all, p)
			}
		}
	}
	return all
}

// randomPicture returns a picture in which one of so many dots is raised.
func randomPicture(seq *sequence, rows, columns, of int) [][]int {
	p := block(rows, columns, 0)
	for _, row := range p {
		for x := range row {
			if seq.next(of) == 0 {
				row[x] = 1
			}
		}
	}
	return p
}

// patterned returns a picture with the dots raised that a function tells.
func patterned(rows, columns int, raised func(y, x int) bool) [][]int {
	p := block(rows, columns, 0)
	for y, row := range p {
		for x := range row {
			if raised(y, x) {
				row[x] = 1
			}
		}
	}
	return p
}

// drawn returns pictures with parts that are long, in each other, or many.
func drawn() [][][]int {
	var all [][][]int
	for _, size := range []dotPlace{{24, 24}, {23, 24}, {24, 23}, {7, 5}, {1, 24}, {24, 1}} {
		rows, columns := size.row, size.column
		edge := func(y, x int) int { return min(y, x, rows-1-y, columns-1-x) }
		for _, raised := range []func(y, x int) bool{
			func(y, x int) bool { return (y+x)%2 == 0 },
			func(y, x int) bool { return (y+x)%2 == 1 },
			func(y, x int) bool { return y%2 == 0 && x%2 == 0 },
			func(y, x int) bool { return y%2 == 1 && x%2 == 1 },
			func(y, x int) bool { return y%3 == 2 && x%3 == 2 },
			func(y, x int) bool { return y == x },
			func(y, x int) bool { return y == columns-1-x },
			func(y, x int) bool { return edge(y, x)%2 == 0 },
			func(y, x int) bool { return edge(y, x)%2 == 1 },
			// A line to and fro, and one up and down.
			func(y, x int) bool { return y%2 == 0 || x == (columns-1)*(y/2%2) },
			func(y, x int) bool { return x%2 == 0 || y == (rows-1)*((x/2+1)%2) },
			// Teeth that hang together in the last row and column alone.
			func(y, x int) bool { return x%2 == 0 || y == rows-1 },
			func(y, x int) bool { return y%2 == 0 || x == columns-1 },
		} {
			all = append(all, patterned(rows, columns, raised))
		}
	}
	return all
}

// pictures returns valid pictures: all short ones, the largest ones, ones with
// their dots at the edges and corners, and many others.
func pictures() [][][]int {
	all := append(shortPictures(9), drawn()...)
	for _, rows := range []int{1, 2, 3, 4, 23, 24} {
		for _, columns := range []int{1, 2, 3, 4, 23, 24} {
			all = append(all, block(rows, columns, 0), block(rows, columns, 1))
			for _, corner := range []dotPlace{{0, 0}, {0, columns - 1}, {rows - 1, 0}, {rows - 1, columns - 1}} {
				all = append(all, pictureOf(rows, columns, corner), replaced(block(rows, columns, 1), corner.row, corner.column, 0))
			}
		}
	}
	seq := sequence{101}
	for i := range 600 {
		all = append(all, randomPicture(&seq, 1+seq.next(24), 1+seq.next(24), []int{2, 3, 5, 20}[i%4]))
	}
	for range 100 {
		all = append(all, impl.Invert(randomPicture(&seq, 1+seq.next(24), 1+seq.next(24), 6)))
	}
	return all
}

// smallPictures returns fewer valid pictures, for tests that take each one many
// times.
func smallPictures() [][][]int {
	all := append(shortPictures(6), drawn()...)
	seq := sequence{102}
	for i := range 150 {
		all = append(all, randomPicture(&seq, 1+seq.next(24), 1+seq.next(24), []int{1, 2, 3, 9}[i%4]))
	}
	return all
}

// noBlocks returns rows of 0 that are too many or too long, none at all, or not
// all of the same length.
func noBlocks(rows, columns int) [][][]int {
	all := [][][]int{nil, {}, {{}}, {nil, nil}, {{}, {0}}, {{0}, {}}, {{0}, {0, 0}}, {{0, 0}, {0}}, {{0, 0}, {0, 0}, {0}}, {{0}, {0, 0}, {0}}, {{0, 0, 0}, {0}, {0, 0}}}
	all = append(all, block(rows, 0, 0), make([][]int, rows+1), make([][]int, 100000), block(1, 100000, 0), block(100000, 1, 0))
	for _, more := range []int{1, 2, 30} {
		all = append(all, block(rows+more, 1, 0), block(rows+more, columns, 0), block(1, columns+more, 0), block(rows, columns+more, 0), block(rows+more, columns+more, 0))
	}
	for _, row := range []int{0, 1, rows - 1} {
		for _, length := range []int{0, columns - 1, columns + 1} {
			uneven := block(rows, columns, 0)
			uneven[row] = filled(length, 0)
			all = append(all, uneven)
		}
	}
	return all
}

// noPictures returns rows that are no valid pictures.
func noPictures() [][][]int {
	all := noBlocks(24, 24)
	for _, n := range append([]int{2, 3, -2, 63}, noCells...) {
		for _, p := range [][][]int{{{1}}, {{0, 1}}, {{1}, {0}}, picture("#. .#"), picture("### ### ###"), block(24, 24, 0)} {
			last := dotPlace{len(p) - 1, len(p[0]) - 1}
			all = append(all, replaced(p, 0, 0, n), replaced(p, last.row, 0, n), replaced(p, 0, last.column, n), replaced(p, last.row, last.column, n))
		}
	}
	return all
}

// cellRows returns valid rows of cells: short ones, the largest ones, and many
// others.
func cellRows() [][][]int {
	var all [][][]int
	for cell := range 64 {
		all = append(all, [][]int{{cell}}, [][]int{{cell, 63 - cell}}, [][]int{{cell}, {63 - cell}}, block(8, 12, cell))
	}
	seq := sequence{103}
	for range 400 {
		rows := block(1+seq.next(8), 1+seq.next(12), 0)
		for _, row := range rows {
			for i := range row {
				row[i] = seq.next(64)
			}
		}
		all = append(all, rows)
	}
	return all
}

// noCellRows returns rows of cells that have no picture.
func noCellRows() [][][]int {
	all := noBlocks(8, 12)
	for _, n := range noCells {
		for _, rows := range [][][]int{{{1}}, {{1, 2}}, {{1}, {2}}, {{1, 2}, {3, 4}}, block(8, 12, 5)} {
			last := dotPlace{len(rows) - 1, len(rows[0]) - 1}
			all = append(all, replaced(rows, 0, 0, n), replaced(rows, last.row, 0, n), replaced(rows, 0, last.column, n), replaced(rows, last.row, last.column, n))
		}
	}
	return all
}

// cellsDrawn returns the rows of cells of a picture, dot by dot of each cell.
func cellsDrawn(p [][]int) [][]int {
	var cells [][]int
	for top := 0; top < len(p); top += 3 {
		var row []int
		for left := 0; left < len(p[0]); left += 2 {
			cell := 0
			for dot := range 6 {
				y, x := top+dot%3, left+dot/3
				if y < len(p) && x < len(p[0]) && p[y][x] == 1 {
					cell += 1 << dot
				}
			}
			row = append(row, cell)
		}
		cells = append(cells, row)
	}
	return cells
}

// dotsDrawn returns the picture of rows of cells, from the dots of each cell.
func dotsDrawn(rows [][]int) [][]int {
	p := block(3*len(rows), 2*len(rows[0]), 0)
	for i, row := range rows {
		for k, cell := range row {
			for _, dot := range impl.DotsOf(cell) {
				p[3*i+(dot-1)%3][2*k+(dot-1)/3] = 1
			}
		}
	}
	return p
}

// shrunk returns a smaller picture, from what more there are in each square:
// raised dots or flat ones.
func shrunk(p [][]int, k int) [][]int {
	small := block((len(p)-1)/k+1, (len(p[0])-1)/k+1, 0)
	for y, row := range p {
		for x, dot := range row {
			small[y/k][x/k] += 2*dot - 1
		}
	}
	for _, row := range small {
		for x, more := range row {
			row[x] = 0
			if more >= 0 {
				row[x] = 1
			}
		}
	}
	return small
}

// thinned returns a thin picture, from the list of the dots that it keeps.
func thinned(p [][]int, distance int) [][]int {
	var kept []dotPlace
	for _, d := range dotsOf(p) {
		if nearest(d, kept) >= distance {
			kept = append(kept, d)
		}
	}
	return pictureOf(len(p), len(p[0]), kept...)
}

// nearest returns the distance of the nearest one of some dots, and a great one
// if there are none.
func nearest(d dotPlace, dots []dotPlace) int {
	least := 1000
	for _, other := range dots {
		least = min(least, d.distance(other))
	}
	return least
}

// closest returns the least distance of two of the dots of a picture, and a great
// one if there are no two.
func closest(p [][]int) int {
	least := 1000
	dots := dotsOf(p)
	for i, d := range dots {
		least = min(least, nearest(d, dots[:i]))
	}
	return least
}

// grown returns a picture with all that is within a distance of 1 of a dot.
func grown(p [][]int) [][]int {
	dots := dotsOf(p)
	return patterned(len(p), len(p[0]), func(y, x int) bool { return nearest(dotPlace{y, x}, dots) <= 1 })
}

// partsFound returns the number of parts of a picture: each dot is a part of its
// own, until two parts of which dots are neighbours become one.
func partsFound(p [][]int) int {
	dots := dotsOf(p)
	part := make([]int, len(dots))
	parts := len(dots)
	for i, d := range dots {
		part[i] = i
		for k, other := range dots[:i] {
			if d.distance(other) == 1 && part[k] != part[i] {
				parts--
				from, to := part[k], part[i]
				for n := range part[:i+1] {
					if part[n] == from {
						part[n] = to
					}
				}
			}
		}
	}
	return parts
}

// wantNone fails the test if rows are not empty.
func wantNone(t *testing.T, call string, p, got [][]int) {
	t.Helper()
	if len(got) > 0 {
		t.Errorf("%s of %.300s = %v", call, fmt.Sprint(p), got)
	}
}

// wantNewMemory fails the test if rows that were made of others share memory with
// them or with each other.
func wantNewMemory(t *testing.T, call string, of [][]int, made func() [][]int) {
	t.Helper()
	before := fmt.Sprint(of)
	for _, row := range of {
		before += fmt.Sprint(row[:cap(row)])
	}
	got := made()
	want := fmt.Sprint(got)
	wantApart(t, call, made())
	for i := range got {
		fillCapacity(got[i])
		got[i] = nil
	}
	after := fmt.Sprint(of)
	for _, row := range of {
		after += fmt.Sprint(row[:cap(row)])
	}
	if after != before {
		t.Errorf("%s changes %s to %s", call, before, after)
	}
	if again := fmt.Sprint(made()); again != want {
		t.Errorf("%s is %s at first, and then %s", call, want, again)
	}
}

// sharedRows returns a picture of which all rows are in one list, with the next
// row as their spare capacity.
func sharedRows() [][]int {
	all := []int{1, 0, 1, 1, 0, 0, 1, 1, 0, 1, 0, 0, 1, 0, 1, 1, 0, 1, 1, 1}
	return [][]int{all[0:4], all[4:8], all[8:12], all[12:16]}
}
