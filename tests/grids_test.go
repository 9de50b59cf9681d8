package tests

import (
	"fmt"
	"testing"

	"loop.example/braille/impl"
)

// grid returns the grid of rows as told by manyRuns.
func grid(rows ...string) [][][]int {
	var all [][][]int
	for _, row := range rows {
		all = append(all, manyRuns(row))
	}
	return all
}

// randomEntry returns an entry of at most longest cells.
func randomEntry(seq *sequence, longest int) []int {
	entry := make([]int, seq.next(longest+1))
	for i := range entry {
		if i == 0 || i+1 == len(entry) {
			entry[i] = 1 + seq.next(63)
		} else if seq.next(3) > 0 {
			entry[i] = seq.next(64)
		}
	}
	return entry
}

// evenGrid returns a grid of entries that are all the same.
func evenGrid(rows, columns int, entry []int) [][][]int {
	all := make([][][]int, rows)
	for n := range all {
		for range columns {
			all[n] = append(all[n], entry)
		}
	}
	return all
}

// shortGrids returns all grids of at most most rows and two columns of entries of
// at most two cells, with the cell 1 alone.
func shortGrids(most int) [][][][]int {
	entries := [][]int{{}, {1}, {1, 1}}
	var rows, grids [][][]int
	for _, one := range entries {
		rows = append(rows, [][]int{one})
	}
	for _, one := range entries {
		for _, two := range entries {
			rows = append(rows, [][]int{one, two})
		}
	}
	found := [][][][]int{}
	last := [][][][]int{grids}
	for range most {
		var next [][][][]int
		for _, above := range last {
			for _, row := range rows {
				if len(above) == 0 || len(above[0]) == len(row) {
					next = append(next, append(append([][][]int{}, above...), row))
				}
			}
		}
		found, last = append(found, next...), next
	}
	return found
}

// grids returns valid grids: short ones, the largest ones, and many others.
func grids() [][][][]int {
	all := append(shortGrids(2), grid("a bb", "ccc _"), grid("a", "bb"), grid("a.b b..c"), grid("_ a _", "b _ _"), grid("-"), grid("_"))
	for _, rows := range []int{1, 2, 7, 8} {
		for _, columns := range []int{1, 2, 4, 5} {
			for _, entry := range [][]int{nil, {63}, filled(11, 1), filled(12, 63), {1, 0, 0, 0, 0, 0, 0, 0, 0, 0, 0, 1}} {
				all = append(all, evenGrid(rows, columns, entry))
			}
		}
	}
	seq := sequence{41}
	for i := 0; i < 400; i++ {
		made := evenGrid(1+seq.next(8), 1+seq.next(5), nil)
		for n := range made {
			for k := range made[n] {
				made[n][k] = randomEntry(&seq, []int{2, 5, 12}[i%3])
			}
		}
		all = append(all, made)
	}
	return all
}

// noGrids returns grids that are not valid, each for one reason alone.
func noGrids() [][][][]int {
	all := [][][][]int{
		nil, {}, {{}}, {nil}, {{}, {}}, make([][][]int, 8),
		evenGrid(9, 1, []int{1}), evenGrid(9, 5, nil), evenGrid(100000, 1, nil),
		evenGrid(1, 6, []int{1}), evenGrid(8, 6, nil), evenGrid(1, 100000, nil),
		grid("a b", "c"), grid("a", "b c"), grid("a b", "c d", "e"), grid("a", "b", "c d"), {{{1}}, {}}, {{}, {{1}}}, {{{1}}, nil, {{1}}},
		{{filled(13, 1)}}, {{{1}, filled(13, 1)}}, {{{1}}, {filled(13, 1)}}, {{filled(100000, 1)}},
		grid("."), grid(".a"), grid("a."), grid(".a."), grid(".."), grid("a .b"), grid("a b."), grid("a", ".a"), grid("a", "a."), {{append(filled(11, 1), 0)}}, {{append([]int{0}, filled(11, 1)...)}},
	}
	for _, cell := range noCells {
		all = append(all, [][][]int{{{cell}}}, [][][]int{{{1, cell, 1}}}, [][][]int{{{1}, {2, cell}}}, [][][]int{{{1}}, {{cell, 2}}})
	}
	return all
}

// widest returns the widths of the columns of a grid.
func widest(g [][][]int) []int {
	widths := make([]int, len(g[0]))
	for _, row := range g {
		for k, entry := range row {
			widths[k] = max(widths[k], len(entry))
		}
	}
	return widths
}

// linesDrawn returns the lines of a grid with columns of some widths: spaces
// alone at first, and then each entry in its place.
func linesDrawn(g [][][]int, widths []int) [][]int {
	var lines [][]int
	for _, row := range g {
		all := -2
		for _, width := range widths {
			all += width + 2
		}
		line := filled(all, 0)
		at := 0
		for k, entry := range row {
			copy(line[at:], entry)
			at += widths[k] + 2
		}
		lines = append(lines, line)
	}
	return lines
}

// wantNoGrid fails the test if a grid is read.
func wantNoGrid(t *testing.T, lines [][]int, widths []int) {
	t.Helper()
	if got, ok := impl.ReadGrid(lines, widths); ok || len(got) > 0 {
		t.Errorf("ReadGrid(%v, %v) = %v, %t", lines, widths, got, ok)
	}
}

// wantGrid fails the test if a grid is not read as it must be.
func wantGrid(t *testing.T, lines [][]int, widths []int, want [][][]int) {
	t.Helper()
	if got, ok := impl.ReadGrid(lines, widths); !ok || fmt.Sprint(got) != fmt.Sprint(want) {
		t.Errorf("ReadGrid(%v, %v) = %v, %t, want %v", lines, widths, got, ok, want)
	}
}
