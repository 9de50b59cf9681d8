package tests

import (
	"fmt"
	"testing"

	"loop.example/braille/impl"
)

func TestSizesOfPages(t *testing.T) {
	if impl.NumberRoom != 6 || impl.MaxHeight != 30 || impl.MaxLines != 200 || impl.MaxWidth != 40 {
		t.Errorf("NumberRoom, MaxHeight, MaxLines and MaxWidth are %d, %d, %d and %d", impl.NumberRoom, impl.MaxHeight, impl.MaxLines, impl.MaxWidth)
	}
}

func TestPagesOf(t *testing.T) {
	for _, c := range []struct {
		lines         [][]int
		title         []int
		width, height int
		want          [][][]int
	}{
		{nil, nil, 6, 2, nil},
		{nil, []int{7}, 8, 30, nil},
		{[][]int{{}}, nil, 6, 2, [][][]int{{{0, 0, 0, 0, 60, 1}, {}}}},
		{[][]int{{9}}, []int{7}, 7, 2, [][][]int{{{7, 0, 0, 0, 0, 60, 1}, {9}}}},
		{[][]int{{9}, {8}}, nil, 6, 2, [][][]int{{{0, 0, 0, 0, 60, 1}, {9}}, {{0, 0, 0, 0, 60, 3}, {8}}}},
		{[][]int{{9}, {8}}, nil, 6, 3, [][][]int{{{0, 0, 0, 0, 60, 1}, {9}, {8}}}},
		{[][]int{{9}, {8}}, nil, 6, 30, [][][]int{{{0, 0, 0, 0, 60, 1}, {9}, {8}}}},
		{[][]int{{9}, {}, {0, 8, 0}}, []int{7, 0}, 9, 3, [][][]int{{{7, 0, 0, 0, 0, 0, 0, 60, 1}, {9}, {}}, {{7, 0, 0, 0, 0, 0, 0, 60, 3}, {0, 8, 0}}}},
		// A title may look like a number, and a line like a head.
		{[][]int{{0, 0, 0, 0, 60, 1, 0, 0}}, []int{60, 1}, 8, 2, [][][]int{{{60, 1, 0, 0, 0, 0, 60, 1}, {0, 0, 0, 0, 60, 1, 0, 0}}}},
	} {
		pages := impl.PagesOf(c.lines, c.title, c.width, c.height)
		call := fmt.Sprintf("(%v, %v, %d, %d)", c.lines, c.title, c.width, c.height)
		wantPages(t, "PagesOf"+call, pages, c.want)
		body, ok := impl.BodyOf(c.want, c.title, c.width, c.height)
		if !ok || fmt.Sprint(body) != fmt.Sprint(c.lines) {
			t.Errorf("BodyOf PagesOf%s = %v, %t", call, body, ok)
		}
	}
}

func TestPagesOfAllKinds(t *testing.T) {
	eachPaged(func(lines [][]int, title []int, width, height int) {
		wantPages(t, fmt.Sprintf("PagesOf(%v, %v, %d, %d)", lines, title, width, height), impl.PagesOf(lines, title, width, height), paged(lines, title, width, height))
	})
}

func TestHeadsWithLongNumbers(t *testing.T) {
	title := []int{63, 62}
	pages := impl.PagesOf(make([][]int, 200), title, 8, 2)
	if len(pages) != 200 {
		t.Fatalf("200 lines are on %d pages", len(pages))
	}
	for _, c := range []struct {
		number int
		head   []int
	}{
		{1, []int{63, 62, 0, 0, 0, 0, 60, 1}}, {9, []int{63, 62, 0, 0, 0, 0, 60, 10}}, {10, []int{63, 62, 0, 0, 0, 60, 1, 26}}, {11, []int{63, 62, 0, 0, 0, 60, 1, 1}}, {20, []int{63, 62, 0, 0, 0, 60, 3, 26}}, {99, []int{63, 62, 0, 0, 0, 60, 10, 10}},
		{100, []int{63, 62, 0, 0, 60, 1, 26, 26}}, {101, []int{63, 62, 0, 0, 60, 1, 26, 1}}, {110, []int{63, 62, 0, 0, 60, 1, 1, 26}}, {123, []int{63, 62, 0, 0, 60, 1, 3, 9}}, {199, []int{63, 62, 0, 0, 60, 1, 10, 10}}, {200, []int{63, 62, 0, 0, 60, 3, 26, 26}},
	} {
		wantCells(t, fmt.Sprintf("the head of the page %d", c.number), pages[c.number-1][0], c.head)
	}
}

func TestLinesThatHaveNoPages(t *testing.T) {
	check := func(lines [][]int, title []int, width, height int) {
		if pages := impl.PagesOf(lines, title, width, height); len(pages) > 0 {
			t.Errorf("PagesOf(%v, %v, %d, %d) = %v", lines, title, width, height, pages)
		}
	}
	for _, width := range pageWidths {
		for _, lines := range noLines(width) {
			check(lines, nil, width, 2)
			check(lines, nil, width, 30)
		}
		for _, title := range noTitles(width) {
			check([][]int{{1}}, title, width, 3)
		}
		for _, height := range noPageHeights {
			check([][]int{{1}}, nil, width, height)
			check([][]int{{1}, {2}, {3}}, nil, width, height)
		}
	}
	for _, width := range noPageWidths {
		check([][]int{{1}}, nil, width, 2)
		check([][]int{{}}, nil, width, 30)
	}
}

func TestLinesOfTheLimitHavePages(t *testing.T) {
	for _, many := range []int{199, 200, 201} {
		pages := impl.PagesOf(make([][]int, many), nil, 6, 2)
		if many <= 200 && len(pages) != many || many > 200 && len(pages) > 0 {
			t.Errorf("%d lines have %d pages", many, len(pages))
		}
	}
	for cell := -3; cell <= 67; cell++ {
		valid := cell >= 0 && cell <= 63
		if pages := impl.PagesOf([][]int{{cell}}, nil, 6, 2); (len(pages) > 0) != valid {
			t.Errorf("PagesOf of the cell %d = %v", cell, pages)
		}
		if pages := impl.PagesOf([][]int{{1}}, []int{cell}, 7, 2); (len(pages) > 0) != valid {
			t.Errorf("PagesOf with the title %d = %v", cell, pages)
		}
	}
}

// noBody fails the test if pages have a body.
func noBody(t *testing.T, pages [][][]int, title []int, width, height int) {
	t.Helper()
	if body, ok := impl.BodyOf(pages, title, width, height); ok || len(body) > 0 {
		t.Errorf("BodyOf(%v, %v, %d, %d) = %v, %t", pages, title, width, height, body, ok)
	}
}

func TestBodyOfOtherPages(t *testing.T) {
	one, two, three := []int{7, 0, 0, 0, 0, 0, 60, 1}, []int{7, 0, 0, 0, 0, 0, 60, 3}, []int{7, 0, 0, 0, 0, 0, 60, 9}
	a, b, c := []int{1}, []int{2}, []int{3}
	for _, pages := range [][][][]int{
		// There are no lines on a page, or no head.
		{{}}, {nil}, {{one}}, {{one, a, b}, {}}, {{one, a, b}, {two}}, {{one, a, b}, nil, {three, c}}, {{a}}, {{a, b}}, {{one, a, b}, {c}}, {{}, {one, a}},
		// A page is not full, or too full.
		{{one, a}, {two, b}}, {{one, a, b, c}}, {{one, a, b}, {two, a, b, c}}, {{one, a, b}, {two, a}, {three, b}}, {{one, a, b, c}, {two, a}},
		// The heads are not in order.
		{{two, a}}, {{two, a, b}, {one, c}}, {{one, a, b}, {one, c}}, {{one, a, b}, {three, c}}, {{a, one, b}}, {{one, a, b}, {c, two}},
		// The heads are others.
		{{{7, 0, 0, 0, 0, 60, 1}, a}}, {{{7, 0, 0, 0, 0, 0, 0, 60, 1}, a}}, {{{7, 0, 0, 0, 0, 60, 26, 1}, a}}, {{{7, 0, 0, 0, 0, 0, 60, 0}, a}}, {{{7, 0, 0, 1, 0, 0, 60, 1}, a}}, {{{0, 7, 0, 0, 0, 0, 60, 1}, a}}, {{{7, 0, 0, 0, 0, 60, 1, 0}, a}}, {{{}, a}}, {{{8, 0, 0, 0, 0, 0, 60, 1}, a}}, {{{0, 0, 0, 0, 0, 0, 60, 1}, a}},
		// The lines are no lines of the width.
		{{one, filled(9, 1)}}, {{one, filled(100000, 1)}}, {{one, {64}}}, {{one, {-1}}}, {{one, a, {1, 1 << 32}}}, {{one, a, b}, {two, {-1}}},
		// There are too many pages, or too many lines on one.
		make([][][]int, 201), make([][][]int, 100000), {make([][]int, 100000)},
	} {
		noBody(t, pages, []int{7}, 8, 3)
	}
	for i := range one {
		for _, cell := range append([]int{one[i] ^ 1}, noCells...) {
			head := append([]int{}, one...)
			head[i] = cell
			noBody(t, [][][]int{{head, a}}, []int{7}, 8, 3)
		}
	}
}

func TestBodyOfWithOtherArguments(t *testing.T) {
	eachPaged(func(lines [][]int, title []int, width, height int) {
		pages := paged(lines, title, width, height)
		for _, other := range []int{width - 1, width + 1} {
			if len(title) <= other-6 && len(lines) > 0 {
				noBody(t, pages, title, other, height)
			}
		}
		if len(lines) > height-1 {
			noBody(t, pages, title, width, height-1)
			noBody(t, pages, title, width, height+1)
		}
		if len(title) > 0 && len(lines) > 0 {
			noBody(t, pages, append(append([]int{}, title[1:]...), title[0]^1), width, height)
		}
	})
	for _, pages := range [][][][]int{nil, {}, {{headWritten(nil, 1, 6), {1}}}} {
		for _, width := range noPageWidths {
			noBody(t, pages, nil, width, 2)
		}
		for _, height := range noPageHeights {
			noBody(t, pages, nil, 6, height)
		}
		for _, width := range pageWidths {
			for _, title := range noTitles(width) {
				noBody(t, pages, title, width, 2)
			}
		}
	}
	for _, width := range pageWidths {
		for _, height := range pageHeights {
			for _, title := range titles(width) {
				if body, ok := impl.BodyOf(nil, title, width, height); !ok || len(body) > 0 {
					t.Errorf("BodyOf no pages with %v, %d, %d = %v, %t", title, width, height, body, ok)
				}
			}
		}
	}
}

// bodyLists returns all lists of at most many lines of a few ones.
func bodyLists(from [][]int, many int) [][][]int {
	lists := [][][]int{nil}
	for n := 0; len(lists[n]) < many; n++ {
		for _, line := range from {
			lists = append(lists, append(append([][]int{}, lists[n]...), line))
		}
	}
	return lists
}

func TestBodyOfAllShortPages(t *testing.T) {
	from := [][]int{headWritten(nil, 1, 6), headWritten(nil, 2, 6), {1}}
	bodies := map[string]string{}
	for _, lines := range bodyLists(from, 6) {
		bodies[fmt.Sprint(paged(lines, nil, 6, 3))] = fmt.Sprint(lines)
	}
	check := func(pages ...[][]int) {
		body, ok := impl.BodyOf(pages, nil, 6, 3)
		want, found := bodies[fmt.Sprint(pages)]
		if ok != found || ok && fmt.Sprint(body) != want || !ok && len(body) > 0 {
			t.Errorf("BodyOf(%v) = %v, %t, want %s, %t", pages, body, ok, want, found)
		}
	}
	all := bodyLists(from, 3)
	for _, one := range all {
		check(one)
		for _, two := range all {
			check(one, two)
			if len(two) > 0 && equal(two[0], from[1]) {
				for _, three := range all {
					check(one, two, three)
				}
			}
		}
	}
}

func TestPlaceOfLine(t *testing.T) {
	for height := 2; height <= 30; height++ {
		page, row := 0, 0
		for n := 0; n < 200; n++ {
			row++
			if row == height {
				page, row = page+1, 1
			}
			if a, b := impl.PlaceOfLine(n, height); a != page || b != row {
				t.Errorf("PlaceOfLine(%d, %d) = %d, %d, want %d, %d", n, height, a, b, page, row)
			}
			if got := impl.LineOfPlace(page, row, height); got != n {
				t.Errorf("LineOfPlace(%d, %d, %d) = %d, want %d", page, row, height, got, n)
			}
		}
		for _, n := range append([]int{-1, -2, -200, 200, 201}, far...) {
			if a, b := impl.PlaceOfLine(n, height); a != -1 || b != -1 {
				t.Errorf("PlaceOfLine(%d, %d) = %d, %d", n, height, a, b)
			}
		}
	}
	for _, height := range noPageHeights {
		for _, n := range []int{-1, 0, 1, 199, 200} {
			if a, b := impl.PlaceOfLine(n, height); a != -1 || b != -1 {
				t.Errorf("PlaceOfLine(%d, %d) = %d, %d", n, height, a, b)
			}
		}
	}
}

func TestLineOfPlace(t *testing.T) {
	numbers := append([]int{-2, -1, 0, 1, 2, 5, 6, 7, 28, 29, 30, 31, 66, 99, 100, 198, 199, 200, 201}, far...)
	for _, height := range append([]int{2, 3, 4, 7, 29, 30}, noPageHeights...) {
		for _, page := range numbers {
			for _, row := range numbers {
				want := -1
				for n := 0; n < 200; n++ {
					if a, b := impl.PlaceOfLine(n, height); a == page && b == row && a >= 0 {
						want = n
					}
				}
				if got := impl.LineOfPlace(page, row, height); got != want {
					t.Errorf("LineOfPlace(%d, %d, %d) = %d, want %d", page, row, height, got, want)
				}
			}
		}
	}
}

func TestP76PagesKeepLines(t *testing.T) {
	eachPaged(func(lines [][]int, title []int, width, height int) {
		pages := impl.PagesOf(lines, title, width, height)
		body, ok := impl.BodyOf(pages, title, width, height)
		if !ok {
			t.Errorf("BodyOf PagesOf(%v, %v, %d, %d) is false", lines, title, width, height)
		}
		wantLists(t, fmt.Sprintf("BodyOf PagesOf(%v, %v, %d, %d)", lines, title, width, height), body, lines)
		for i, page := range pages {
			if i+1 < len(pages) && len(page) != height || len(page) > height || len(page) < 2 {
				t.Errorf("PagesOf(%v, %v, %d, %d) has %d lines on the page %d", lines, title, width, height, len(page), i)
			}
		}
	})
}

func TestP77PagesAreNumbered(t *testing.T) {
	eachPaged(func(lines [][]int, title []int, width, height int) {
		for i, page := range impl.PagesOf(lines, title, width, height) {
			head, number := page[0], impl.PlainCells(fmt.Sprint(i+1))
			gap := len(head) - len(number)
			if len(head) != width || !equal(head[:len(title)], title) || !equal(head[gap:], number) || !equal(head[len(title):gap], filled(gap-len(title), 0)) || gap-len(title) < 2 {
				t.Errorf("the head of the page %d with the title %v is %v", i, title, head)
			}
		}
	})
}

func TestP78LinesAreWhereTheyAreSaidToBe(t *testing.T) {
	eachPaged(func(lines [][]int, title []int, width, height int) {
		pages := impl.PagesOf(lines, title, width, height)
		for n, line := range lines {
			page, row := impl.PlaceOfLine(n, height)
			if page < 0 || page >= len(pages) || row < 1 || row >= len(pages[page]) || !equal(pages[page][row], line) {
				t.Fatalf("PagesOf(%v, %v, %d, %d) does not have the line %d at %d, %d", lines, title, width, height, n, page, row)
			}
		}
	})
}

func TestP79BodiesBecomePagesAgain(t *testing.T) {
	eachPaged(func(lines [][]int, title []int, width, height int) {
		pages := paged(lines, title, width, height)
		body, ok := impl.BodyOf(pages, title, width, height)
		if !ok {
			t.Errorf("BodyOf(%v, %v, %d, %d) is false", pages, title, width, height)
		}
		wantPages(t, "PagesOf BodyOf", impl.PagesOf(body, title, width, height), pages)
	})
}

func TestP80PlacesAreLines(t *testing.T) {
	for height := 2; height <= 30; height++ {
		for n := 0; n < 200; n++ {
			page, row := impl.PlaceOfLine(n, height)
			if impl.LineOfPlace(page, row, height) != n || row < 1 || row >= height || page < 0 {
				t.Errorf("LineOfPlace(%d, %d, %d) = %d, want %d", page, row, height, impl.LineOfPlace(page, row, height), n)
			}
		}
	}
}

func TestP81LinesAreAtTheirPlaces(t *testing.T) {
	for height := 2; height <= 30; height++ {
		found := 0
		for page := -2; page <= 202; page++ {
			for row := -2; row <= 32; row++ {
				n := impl.LineOfPlace(page, row, height)
				if n < 0 {
					continue
				}
				found++
				if a, b := impl.PlaceOfLine(n, height); a != page || b != row {
					t.Errorf("PlaceOfLine(%d, %d) = %d, %d, want %d, %d", n, height, a, b, page, row)
				}
			}
		}
		if found != 200 {
			t.Errorf("%d lines have a place for the height %d", found, height)
		}
	}
}

func TestP191PagesAreAsFewAsCanBe(t *testing.T) {
	for _, height := range pageHeights {
		for many := 0; many <= 200; many++ {
			pages := impl.PagesOf(make([][]int, many), nil, 6, height)
			want := many / (height - 1)
			if want*(height-1) < many {
				want++
			}
			if len(pages) != want {
				t.Errorf("%d lines have %d pages of the height %d, want %d", many, len(pages), height, want)
			}
		}
	}
}

func TestPagesAreNewMemory(t *testing.T) {
	// The lines, the title, and the lines of pages stand in one list.
	all := runs("aabbbcdd")
	lines, title := [][]int{all[0:2], all[2:5], all[5:6], all[6:8]}, all[0:1]
	pages := [][][]int{{headWritten(title, 1, 7), all[0:2], all[2:5]}, {headWritten(title, 2, 7), all[5:6], all[6:8]}}
	before := fmt.Sprint(pages)
	for range 2 {
		wantPagesApart(t, "PagesOf", impl.PagesOf(lines, title, 7, 3))
		body, _ := impl.BodyOf(pages, title, 7, 3)
		wantLists(t, "BodyOf", body, manyRuns("aa bbb c dd"))
		wantApart(t, "BodyOf", body)
		body = body[:cap(body)]
		for i := range body {
			body[i] = nil
		}
		wantCells(t, "the lines after the calls", all, runs("aabbbcdd"))
		wantLists(t, "the lines after the calls", lines, manyRuns("aa bbb c dd"))
		if fmt.Sprint(pages) != before {
			t.Errorf("the pages after the calls are %v", pages)
		}
	}
	// One page alone, whose lines are not the whole of the body's memory.
	page := [][][]int{append(make([][]int, 0, 9), headWritten(nil, 1, 6), []int{1}, []int{2})}
	body, _ := impl.BodyOf(page, nil, 6, 9)
	body[0] = []int{5}
	_ = append(body, []int{6})
	wantPages(t, "the page after the calls", [][][]int{page[0][:4]}, [][][]int{{{0, 0, 0, 0, 60, 1}, {1}, {2}, {}}})
}
