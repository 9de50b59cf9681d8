package tests

import (
	"fmt"
	"testing"

	"loop.example/braille/impl"
)

func TestValidGrid(t *testing.T) {
	if impl.MaxEntry != 12 || impl.MaxColumns != 5 || impl.MaxGridRows != 8 {
		t.Errorf("MaxEntry, MaxColumns and MaxGridRows are %d, %d and %d", impl.MaxEntry, impl.MaxColumns, impl.MaxGridRows)
	}
	for _, g := range grids() {
		if !impl.ValidGrid(g) {
			t.Errorf("ValidGrid(%v) is false", g)
		}
	}
	for _, g := range noGrids() {
		if impl.ValidGrid(g) {
			t.Errorf("ValidGrid(%v) is true", g)
		}
	}
	for cell := -3; cell <= 67; cell++ {
		want := cell >= 0 && cell <= 63
		if impl.ValidGrid([][][]int{{{1, cell, 1}}}) != want || impl.ValidGrid([][][]int{{{cell}}}) != (want && cell != 0) {
			t.Errorf("ValidGrid of the cell %d is not %t", cell, want)
		}
	}
}

func TestValidGridAtTheLimits(t *testing.T) {
	for rows := 0; rows <= 10; rows++ {
		for columns := 0; columns <= 7; columns++ {
			for _, many := range []int{0, 1, 11, 12, 13, 14} {
				want := rows >= 1 && rows <= 8 && columns >= 1 && columns <= 5 && many <= 12
				if impl.ValidGrid(evenGrid(rows, columns, filled(many, 5))) != want {
					t.Errorf("ValidGrid of %d rows of %d entries of %d cells is not %t", rows, columns, many, want)
				}
			}
		}
	}
}

func TestGridLines(t *testing.T) {
	for _, c := range []struct {
		grid   [][][]int
		widths []int
		lines  string
	}{
		{grid("a"), []int{1}, "a"}, {grid("_"), []int{0}, "_"}, {grid("_", "_"), []int{0}, "_ _"}, {grid("_ _"), []int{0, 0}, ".."}, {grid("_ _ _ _ _"), []int{0, 0, 0, 0, 0}, "........"},
		{grid("a b"), []int{1, 1}, "a..b"}, {grid("a _"), []int{1, 0}, "a.."}, {grid("_ a"), []int{0, 1}, "..a"}, {grid("_ a _"), []int{0, 1, 0}, "..a.."},
		{grid("a bb", "ccc _"), []int{3, 2}, "a....bb ccc...."}, {grid("a", "bb", "_"), []int{2}, "a. bb .."}, {grid("_ a _", "b _ _"), []int{1, 1, 0}, "...a.. b....."},
		{grid("a..b c", "d e.f"), []int{4, 3}, "a..b..c.. d.....e.f"}, {grid("a-b c", "- dd"), []int{3, 2}, "a-b..c. -....dd"},
	} {
		wantCells(t, fmt.Sprintf("ColumnWidths(%v)", c.grid), impl.ColumnWidths(c.grid), c.widths)
		wantLists(t, fmt.Sprintf("GridLines(%v)", c.grid), impl.GridLines(c.grid), manyRuns(c.lines))
		wantGrid(t, manyRuns(c.lines), c.widths, c.grid)
	}
}

func TestGridLinesOfAllKinds(t *testing.T) {
	for _, g := range grids() {
		wantCells(t, fmt.Sprintf("ColumnWidths(%v)", g), impl.ColumnWidths(g), widest(g))
		wantLists(t, fmt.Sprintf("GridLines(%v)", g), impl.GridLines(g), linesDrawn(g, widest(g)))
	}
	for _, g := range noGrids() {
		if widths, lines := impl.ColumnWidths(g), impl.GridLines(g); len(widths) > 0 || len(lines) > 0 {
			t.Errorf("ColumnWidths and GridLines(%v) = %v, %v", g, widths, lines)
		}
	}
}

func TestReadGridOfAllShortLines(t *testing.T) {
	found := map[string]string{}
	for _, g := range shortGrids(2) {
		found[fmt.Sprint(linesDrawn(g, widest(g)), widest(g))] = fmt.Sprint(g)
	}
	check := func(lines [][]int, widths []int) {
		want, ok := found[fmt.Sprint(lines, widths)]
		got, read := impl.ReadGrid(lines, widths)
		if read != ok || ok && fmt.Sprint(got) != want || !ok && len(got) > 0 {
			t.Errorf("ReadGrid(%v, %v) = %v, %t, want %s, %t", lines, widths, got, read, want, ok)
		}
	}
	all := allLists([]int{0, 1}, 6)
	for _, widths := range [][]int{{0}, {1}, {2}, {0, 0}, {0, 1}, {0, 2}, {1, 0}, {1, 1}, {1, 2}, {2, 0}, {2, 1}, {2, 2}} {
		check(nil, widths)
		for _, one := range append(all, nil) {
			check([][]int{one}, widths)
			for _, two := range append(all, nil) {
				if len(one) == len(two) {
					check([][]int{one, two}, widths)
				}
			}
		}
	}
}

func TestReadGridOfOtherLines(t *testing.T) {
	for _, c := range []struct {
		lines  string
		widths []int
	}{
		// The lines are too short, too long, or not even.
		{"a..b", []int{1, 2}}, {"a..b", []int{2, 1}}, {"a..b.", []int{1, 1}}, {"a..", []int{1, 1}}, {"a..b a..", []int{1, 1}}, {"a..b a..b.", []int{1, 1}}, {"a", []int{0}}, {"_", []int{1}}, {"a _", []int{1}},
		// There is a cell between two columns, or before an entry.
		{"a.cb", []int{1, 1}}, {"ac.b", []int{1, 1}}, {"a....b a.c..b", []int{1, 1, 1}}, {".a", []int{2}}, {".a bb", []int{2}}, {".b..a bb..a", []int{2, 1}}, {"a...b. ccc.dd", []int{2, 2}}, {"a...b. cc.cdd", []int{2, 2}}, {"aa...b aa..bb", []int{2, 2}},
		// No entry is as wide as its column.
		{"a.", []int{2}}, {"..", []int{2}}, {"a...b", []int{2, 1}}, {"a..b.", []int{1, 2}}, {"a. a. ..", []int{2}}, {"a..", []int{0, 1}}, {"...", []int{1, 0}},
		// There are no lines.
		{"", []int{1}}, {"", []int{0}}, {"", nil}, {"", []int{0, 0, 0, 0, 0}},
		// There are no columns, too many, or too wide ones.
		{"_", nil}, {"_ _", nil}, {"..........", []int{0, 0, 0, 0, 0, 0}}, {"a..a..a..a..a..a", []int{1, 1, 1, 1, 1, 1}}, {"aaaaaaaaaaaaa", []int{13}}, {"a..aaaaaaaaaaaaa", []int{1, 13}},
		{"a", []int{3, -4}}, {"_", []int{1, -3}}, {"aaa", []int{2, -1}}, {".", []int{-1, 0}}, {"..", []int{-1, 1}}, {"..", []int{1, -1}}, {"_", []int{-2, 0}}, {"_", []int{-1}},
	} {
		wantNoGrid(t, manyRuns(c.lines), c.widths)
	}
	for _, n := range far {
		for _, widths := range [][]int{{n}, {n, n}, {1, n}, {n, 1}, {n, -n}, {-n, n, 1}} {
			wantNoGrid(t, [][]int{{1}}, widths)
			wantNoGrid(t, [][]int{{1, 0, 0}}, widths)
			wantNoGrid(t, [][]int{{}}, widths)
			wantNoGrid(t, nil, widths)
		}
	}
	wantNoGrid(t, [][]int{{1}}, make([]int, 100000))
	wantNoGrid(t, make([][]int, 100000), []int{0})
	wantNoGrid(t, [][]int{filled(100000, 1)}, []int{12})
	wantNoGrid(t, [][]int{filled(100000, 1)}, []int{100000})
	for _, n := range noCells {
		for _, lines := range [][][]int{{{n}}, {{1}, {n}}, {{n}, {1}}} {
			wantNoGrid(t, lines, []int{1})
		}
		wantNoGrid(t, [][]int{{1, n, 1}}, []int{3})
		for i := range 4 {
			line := []int{1, 0, 0, 1}
			line[i] = n
			wantNoGrid(t, [][]int{line}, []int{1, 1})
		}
	}
}

func TestReadGridAtTheLimits(t *testing.T) {
	for rows := 1; rows <= 10; rows++ {
		for columns := 1; columns <= 7; columns++ {
			for _, many := range []int{0, 1, 11, 12, 13, 14} {
				g := evenGrid(rows, columns, filled(many, 5))
				if rows <= 8 && columns <= 5 && many <= 12 {
					wantGrid(t, linesDrawn(g, widest(g)), widest(g), g)
				} else {
					wantNoGrid(t, linesDrawn(g, widest(g)), widest(g))
				}
			}
		}
	}
}

func TestP82GridsCanLoseRows(t *testing.T) {
	for _, g := range grids() {
		for i := range g {
			if others := append(append([][][]int{}, g[:i]...), g[i+1:]...); impl.ValidGrid(others) != (len(g) > 1) {
				t.Errorf("ValidGrid(%v) without the row %d is not %t", g, i, len(g) > 1)
			}
		}
	}
}

func TestP83ColumnsAreAsWideAsTheirWidestEntries(t *testing.T) {
	for _, g := range grids() {
		widths := impl.ColumnWidths(g)
		if len(widths) != len(g[0]) {
			t.Errorf("ColumnWidths(%v) = %v", g, widths)
			continue
		}
		for k, width := range widths {
			as := 0
			for _, row := range g {
				if len(row[k]) > width {
					t.Errorf("ColumnWidths(%v) = %v", g, widths)
				}
				if len(row[k]) == width {
					as++
				}
			}
			if as == 0 {
				t.Errorf("ColumnWidths(%v) = %v", g, widths)
			}
		}
	}
}

func TestP84GridsAreReadBack(t *testing.T) {
	for _, g := range grids() {
		wantGrid(t, impl.GridLines(g), impl.ColumnWidths(g), g)
	}
}

func TestP85LinesOfGridsAreEven(t *testing.T) {
	for _, g := range grids() {
		want := 2 * (len(g[0]) - 1)
		for _, width := range impl.ColumnWidths(g) {
			want += width
		}
		lines := impl.GridLines(g)
		if len(lines) != len(g) {
			t.Errorf("GridLines(%v) = %v", g, lines)
		}
		for _, line := range lines {
			if len(line) != want {
				t.Errorf("GridLines(%v) = %v", g, lines)
			}
		}
	}
}

func TestP86RowsHaveTheirOwnLines(t *testing.T) {
	for _, g := range grids() {
		var back [][][]int
		var want [][]int
		lines := impl.GridLines(g)
		for i := len(g) - 1; i >= 0; i-- {
			back, want = append(back, g[i]), append(want, lines[i])
		}
		wantLists(t, fmt.Sprintf("GridLines(%v)", back), impl.GridLines(back), want)
	}
}

func TestP87ReadGridsAreWrittenBack(t *testing.T) {
	seq := sequence{42}
	read := 0
	for _, g := range grids() {
		lines, widths := linesDrawn(g, widest(g)), widest(g)
		for i := 0; i < 20; i++ {
			if got, ok := impl.ReadGrid(lines, widths); ok {
				read++
				wantLists(t, "GridLines of ReadGrid", impl.GridLines(got), lines)
				wantCells(t, "ColumnWidths of ReadGrid", impl.ColumnWidths(got), widths)
			}
			// Another cell, or another width, may lead to another grid or to none.
			line := lines[seq.next(len(lines))]
			if len(line) > 0 && seq.next(4) > 0 {
				line[seq.next(len(line))] = seq.next(2) * seq.next(64)
			} else {
				widths[seq.next(len(widths))] += seq.next(3) - 1
			}
		}
	}
	if read < 1000 {
		t.Errorf("only %d grids are read", read)
	}
}

func TestP192EntriesStandInTheirColumns(t *testing.T) {
	for _, g := range grids() {
		lines, widths := impl.GridLines(g), impl.ColumnWidths(g)
		for n, row := range g {
			at := 0
			for k, entry := range row {
				if at+len(entry) > len(lines[n]) || !equal(lines[n][at:at+len(entry)], entry) {
					t.Errorf("GridLines(%v) = %v without the entry %d, %d at %d", g, lines, n, k, at)
				}
				at += widths[k] + 2
			}
		}
	}
}

func TestGridsAreNewMemory(t *testing.T) {
	// The entries, and the lines, stand in one list.
	all := runs("aabccc")
	g := [][][]int{{all[0:2], all[2:3]}, {all[2:3], all[3:6]}}
	line := runs("aa..b..b...ccc")
	lines, widths := [][]int{line[:7], line[7:]}, []int{2, 3}
	for range 2 {
		wantLists(t, "GridLines", impl.GridLines(g), manyRuns("aa..b.. b...ccc"))
		wantApart(t, "GridLines", impl.GridLines(g))
		fillCapacity(impl.ColumnWidths(g))
		read, ok := impl.ReadGrid(lines, widths)
		if !ok || fmt.Sprint(read) != fmt.Sprint(grid("aa b", "b ccc")) {
			t.Errorf("ReadGrid = %v, %t", read, ok)
		}
		wantPagesApart(t, "ReadGrid", read)
		wantCells(t, "the entries after the calls", all, runs("aabccc"))
		wantCells(t, "the lines after the calls", line, runs("aa..b..b...ccc"))
		wantCells(t, "the widths after the calls", widths, []int{2, 3})
	}
	if fmt.Sprint(g) != fmt.Sprint(grid("aa b", "b ccc")) {
		t.Errorf("the grid after the calls is %v", g)
	}
}
