package tests

import (
	"fmt"
	"strconv"
	"testing"
)

// wantPages fails the test if pages are not as they must be.
func wantPages(t *testing.T, call string, got, want [][][]int) {
	t.Helper()
	if fmt.Sprint(got) != fmt.Sprint(want) {
		t.Errorf("%s = %v, want %v", call, got, want)
	}
}

// wantPagesApart fails the test if two pages, or two lines, of a result share
// memory. The result is of no use any more afterwards.
func wantPagesApart(t *testing.T, call string, pages [][][]int) {
	t.Helper()
	var lines [][]int
	for i := range pages {
		lines = append(lines, pages[i]...)
		others := fmt.Sprint(pages[:i], pages[i+1:])
		spare := pages[i][:cap(pages[i])]
		for k := range spare {
			spare[k] = []int{-7}
		}
		if fmt.Sprint(pages[:i], pages[i+1:]) != others {
			t.Errorf("%s shares the memory of the page %d", call, i)
		}
	}
	wantApart(t, call, lines)
}

// far are numbers far from all limits.
var far = []int{1 << 31, 1 << 32, -1 << 32, -1 << 63, -1<<63 + 1, 1<<63 - 2, 1<<63 - 1}

// pageWidths and pageHeights are sizes of pages that matter.
var (
	pageWidths  = []int{6, 7, 8, 13, 39, 40}
	pageHeights = []int{2, 3, 4, 9, 29, 30}
)

// noPageWidths and noPageHeights are numbers that are no sizes of pages.
var (
	noPageWidths  = append([]int{5, 4, 1, 0, -1, -6, -40, 41, 42, 200}, far...)
	noPageHeights = append([]int{1, 0, -1, -2, -30, 31, 32, 200}, far...)
)

// digitCells are the cells of the digits from 0 to 9.
var digitCells = []int{26, 1, 3, 9, 25, 17, 11, 27, 19, 10}

// numberCells returns the cells of a number.
func numberCells(n int) []int {
	cells := []int{60}
	for _, c := range strconv.Itoa(n) {
		cells = append(cells, digitCells[c-'0'])
	}
	return cells
}

// headWritten returns the head of the page with a number.
func headWritten(title []int, number, width int) []int {
	head := filled(width, 0)
	copy(head, title)
	cells := numberCells(number)
	copy(head[width-len(cells):], cells)
	return head
}

// paged returns the pages of lines, which are put on them one by one.
func paged(lines [][]int, title []int, width, height int) [][][]int {
	var pages [][][]int
	for n, line := range lines {
		if n%(height-1) == 0 {
			pages = append(pages, [][]int{headWritten(title, n/(height-1)+1, width)})
		}
		last := len(pages) - 1
		pages[last] = append(pages[last], line)
	}
	return pages
}

// randomLines returns many lines of at most width cells.
func randomLines(seq *sequence, many, width int) [][]int {
	lines := make([][]int, many)
	for n := range lines {
		lines[n] = make([]int, seq.next(width+1))
		for k := range lines[n] {
			lines[n][k] = seq.next(64)
		}
	}
	return lines
}

// titles returns titles for pages of a width: none, short ones, the longest one,
// and ones that look like a number or like no title.
func titles(width int) [][]int {
	all := [][]int{nil}
	for _, title := range [][]int{{5}, {0}, {60, 1}, {0, 0, 7}, filled(width-6, 63), filled(width-6, 0)} {
		if len(title) <= width-6 {
			all = append(all, title)
		}
	}
	return all
}

// eachPaged calls a function for lines that can be put on pages.
func eachPaged(f func(lines [][]int, title []int, width, height int)) {
	seq := sequence{31}
	for _, width := range pageWidths {
		for _, height := range pageHeights {
			for _, title := range titles(width) {
				for _, many := range []int{0, 1, 2, height - 2, height - 1, height, 2*height - 2, 2*height - 1, seq.next(201)} {
					f(randomLines(&seq, many, width), title, width, height)
				}
			}
			f(randomLines(&seq, 200, width), nil, width, height)
			f(make([][]int, 200), filled(width-6, 1), width, height)
		}
	}
}

// noLines returns lines that cannot be put on pages of a width, each for one
// reason alone.
func noLines(width int) [][][]int {
	good, wide := filled(width, 1), filled(width+1, 1)
	lists := [][][]int{{wide}, {good, wide}, {wide, good}, {filled(width+1, 0)}, {filled(100000, 1)}, make([][]int, 201), make([][]int, 202), make([][]int, 100000)}
	for _, cell := range noCells {
		bad := filled(width, 1)
		bad[width-1] = cell
		lists = append(lists, [][]int{bad}, [][]int{good, bad}, [][]int{bad, good}, [][]int{{}, {cell}, {}})
	}
	return lists
}

// noTitles returns lists that are no titles for pages of a width.
func noTitles(width int) [][]int {
	lists := [][]int{filled(width-5, 1), filled(width-5, 0), filled(width, 1), filled(100000, 1)}
	for _, cell := range noCells {
		if width > 6 {
			bad := filled(width-6, 1)
			bad[width-7] = cell
			lists = append(lists, []int{cell}, bad)
		}
	}
	return lists
}
