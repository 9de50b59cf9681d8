package tests

import (
	"fmt"
	"strings"
	"testing"

	"loop.example/braille/impl"
)

// noPlaces are numbers that are no places of a text.
var noPlaces = append([]int{-1, -2, -60, 60, 61, 200}, far...)

func TestValidDisplay(t *testing.T) {
	for _, d := range displays() {
		if !impl.ValidDisplay(d) {
			t.Errorf("%s is false", callOn("ValidDisplay", d))
		}
	}
	for _, d := range noDisplays() {
		wantNoDisplay(t, d)
	}
}

func TestStartsOfDisplays(t *testing.T) {
	for many := range 9 {
		for width := 1; width <= 9; width++ {
			for start := -10; start <= 20; start++ {
				d := display(filled(many, 1), rising(many, 0, 1), start, width)
				want := start == 0
				for at := 0; at < many; at += width {
					want = want || start == at
				}
				if impl.ValidDisplay(d) != want {
					t.Errorf("%s is %t", callOn("ValidDisplay", d), !want)
				}
			}
		}
	}
}

func TestNewDisplay(t *testing.T) {
	for _, c := range []struct {
		table  []impl.Rule
		text   string
		width  int
		cells  []int
		places []int
	}{
		{nil, "", 1, nil, nil}, {nil, " ", 40, []int{0}, []int{0}}, {english(), "the", 3, []int{46}, []int{0}}, {english(), "The 1", 40, []int{32, 30, 19, 17, 0, 60, 1}, []int{0, 0, 1, 2, 3, 4, 4}},
		{english(), "dance 3a", 1, []int{25, 40, 17, 0, 60, 9, 48, 1}, []int{0, 1, 1, 5, 6, 6, 7, 7}},
	} {
		wantDisplay(t, fmt.Sprintf("NewDisplay(%q, %d)", c.text, c.width), impl.NewDisplay(c.table, c.text, c.width), display(c.cells, c.places, 0, c.width))
	}
	longest := impl.NewDisplay(nil, strings.Repeat("Aa", 15)+strings.Repeat("1.", 15), 40)
	if len(longest.Cells) != 90 || longest.Places[89] != 59 || !impl.ValidDisplay(longest) {
		t.Errorf("NewDisplay of 60 characters = %v", longest)
	}
}

func TestNewDisplayOfOtherArguments(t *testing.T) {
	for _, width := range noWidths {
		for _, text := range []string{"", "the", "the 1"} {
			if d := impl.NewDisplay(english(), text, width); !isZeroDisplay(d) {
				t.Errorf("NewDisplay(%q, %d) = %v", text, width, d)
			}
		}
	}
	for _, text := range noTexts {
		for _, table := range [][]impl.Rule{nil, english()} {
			if d := impl.NewDisplay(table, text, 5); !isZeroDisplay(d) {
				t.Errorf("NewDisplay(%.100q) = %v", text, d)
			}
		}
	}
	for _, table := range noTables() {
		for _, text := range []string{"", "the", "1", "st"} {
			if d := impl.NewDisplay(table, text, 5); !isZeroDisplay(d) {
				t.Errorf("NewDisplay(%v, %q) = %v", table, text, d)
			}
		}
	}
}

func TestWindowOf(t *testing.T) {
	for _, d := range displays() {
		wantCells(t, callOn("WindowOf", d), impl.WindowOf(d), windowSeen(d))
	}
	for width := 1; width <= 40; width++ {
		wantCells(t, "WindowOf no cells", impl.WindowOf(display(nil, nil, 0, width)), filled(width, 0))
	}
}

func TestPanBy(t *testing.T) {
	for _, d := range displays() {
		for _, by := range []int{1, -1} {
			e, ok := impl.PanBy(d, by)
			start := d.Start + by*d.Width
			want := start >= 0 && start < len(d.Cells)
			if !want {
				start = d.Start
			}
			if ok != want {
				t.Errorf("%s is %t", callOn("PanBy", d, by), ok)
			}
			wantDisplay(t, callOn("PanBy", d, by), e, startingAt(d, start))
		}
	}
	for _, by := range append([]int{0, 2, -2, 3, 40, -40}, far...) {
		for _, d := range []impl.Display{display(nil, nil, 0, 1), display(filled(200, 1), filled(200, 0), 80, 40), display(filled(9, 1), filled(9, 0), 4, 1), display(filled(9, 1), filled(9, 0), 0, 3)} {
			if e, ok := impl.PanBy(d, by); ok || !isZeroDisplay(e) {
				t.Errorf("%s = %v, %t", callOn("PanBy", d, by), e, ok)
			}
		}
	}
}

func TestCellOfPlaceAndShowPlace(t *testing.T) {
	for _, d := range displays() {
		for place := range 60 {
			cell := firstShown(d, place)
			if got := impl.CellOfPlace(d, place); got != cell {
				t.Errorf("%s = %d, want %d", callOn("CellOfPlace", d, place), got, cell)
			}
			e, ok := impl.ShowPlace(d, place)
			start := d.Start
			if cell >= 0 {
				start = startFor(d, cell)
			}
			if ok != (cell >= 0) {
				t.Errorf("%s is %t", callOn("ShowPlace", d, place), ok)
			}
			wantDisplay(t, callOn("ShowPlace", d, place), e, startingAt(d, start))
		}
		for _, place := range noPlaces {
			if got := impl.CellOfPlace(d, place); got != -1 {
				t.Errorf("%s = %d", callOn("CellOfPlace", d, place), got)
			}
			if e, ok := impl.ShowPlace(d, place); ok || !isZeroDisplay(e) {
				t.Errorf("%s = %v, %t", callOn("ShowPlace", d, place), e, ok)
			}
		}
	}
}

func TestPlacesBeforeTheFirstOneAreNotShown(t *testing.T) {
	d := display([]int{1, 3, 9, 25}, []int{4, 4, 8, 9}, 2, 2)
	for place, want := range []int{-1, -1, -1, -1, 0, 0, 0, 0, 2, 3, 3} {
		if got := impl.CellOfPlace(d, place); got != want {
			t.Errorf("CellOfPlace(%d) = %d, want %d", place, got, want)
		}
		start := 2
		if want == 0 {
			start = 0
		}
		e, ok := impl.ShowPlace(d, place)
		if ok != (want >= 0) {
			t.Errorf("ShowPlace(%d) is %t", place, ok)
		}
		wantDisplay(t, fmt.Sprintf("ShowPlace(%d)", place), e, startingAt(d, start))
	}
}

func TestRouteOf(t *testing.T) {
	for _, d := range displays() {
		for k := -2; k <= 42; k++ {
			if got := impl.RouteOf(d, k); got != routeSeen(d, k) {
				t.Errorf("%s = %d, want %d", callOn("RouteOf", d, k), got, routeSeen(d, k))
			}
		}
		for _, k := range append([]int{200, -200}, far...) {
			if got := impl.RouteOf(d, k); got != -1 {
				t.Errorf("%s = %d", callOn("RouteOf", d, k), got)
			}
		}
	}
}

func TestP144DisplaysShowCells(t *testing.T) {
	for _, d := range displays() {
		window := impl.WindowOf(d)
		if len(window) != d.Width || !impl.ValidCells(window) {
			t.Errorf("%s = %v", callOn("WindowOf", d), window)
		}
	}
}

func TestP145NewDisplaysBeginAtTheBeginning(t *testing.T) {
	eachNewDisplay(func(table []impl.Rule, text string, d impl.Display) {
		call := fmt.Sprintf("NewDisplay(%v, %q, %d)", table, text, d.Width)
		if !impl.ValidDisplay(d) || d.Start != 0 {
			t.Errorf("%s = %v", call, d)
		}
		want := showText(table, text)
		wantDisplay(t, call, d, display(want.cells, want.places, 0, d.Width))
		wantDisplay(t, call, d, display(impl.TextCells(table, text), impl.TextPlaces(table, text), 0, d.Width))
	})
}

func TestP146PanningShowsAll(t *testing.T) {
	long := 0
	eachNewDisplay(func(table []impl.Rule, text string, d impl.Display) {
		all := impl.WindowOf(d)
		windows := 1
		for e, ok := impl.PanBy(d, 1); ok && windows <= 200; e, ok = impl.PanBy(e, 1) {
			all = append(all, impl.WindowOf(e)...)
			windows++
		}
		most := max(1, (len(d.Cells)+d.Width-1)/d.Width)
		if windows != most {
			t.Errorf("%s has %d windows, want %d", callOn("PanBy", d), windows, most)
		}
		wantCells(t, callOn("the windows of", d), all, joined(d.Cells, filled(most*d.Width-len(d.Cells), 0)))
		if windows > 2 {
			long++
		}
	})
	if long < 1000 {
		t.Errorf("only %d displays have more than two windows", long)
	}
}

func TestP147WindowsArePartsOfTheCells(t *testing.T) {
	for _, d := range displays() {
		window := impl.WindowOf(d)
		for k := range d.Width {
			want := 0
			if d.Start+k < len(d.Cells) {
				want = d.Cells[d.Start+k]
			}
			if k >= len(window) || window[k] != want {
				t.Errorf("%s = %v, want %d at %d", callOn("WindowOf", d), window, want, k)
				break
			}
		}
	}
}

func TestP148PanningGoesBack(t *testing.T) {
	for _, d := range displays() {
		for _, by := range []int{1, -1} {
			e, ok := impl.PanBy(d, by)
			if !ok {
				continue
			}
			if !impl.ValidDisplay(e) || e.Start != d.Start+by*d.Width {
				t.Errorf("%s = %v", callOn("PanBy", d, by), e)
			}
			wantDisplay(t, callOn("PanBy", d, by)+" but for Start", startingAt(e, d.Start), d)
			back, fine := impl.PanBy(e, -by)
			if !fine {
				t.Errorf("%s is false", callOn("PanBy", e, -by))
			}
			wantDisplay(t, callOn("PanBy", e, -by), back, d)
		}
	}
}

func TestP149PlacesAreShown(t *testing.T) {
	for _, d := range displays() {
		first := 0
		for cell, place := range d.Places {
			if place != d.Places[first] {
				first = cell
			}
			if got := impl.CellOfPlace(d, place); got != first {
				t.Errorf("%s = %d, want %d", callOn("CellOfPlace", d, place), got, first)
			}
		}
	}
}

func TestP150ShownPlacesAreInTheWindow(t *testing.T) {
	for _, d := range displays() {
		for place := range 60 {
			e, ok := impl.ShowPlace(d, place)
			if !ok {
				continue
			}
			cell := impl.CellOfPlace(d, place)
			if !impl.ValidDisplay(e) || cell < e.Start || cell >= e.Start+e.Width || impl.CellOfPlace(e, place) != cell {
				t.Errorf("%s = %v, and the cell is %d", callOn("ShowPlace", d, place), e, cell)
			}
			again, fine := impl.ShowPlace(e, place)
			if !fine {
				t.Errorf("%s is false", callOn("ShowPlace", e, place))
			}
			wantDisplay(t, callOn("ShowPlace", e, place), again, e)
		}
	}
}

func TestP151RoutesLeadBack(t *testing.T) {
	for _, d := range displays() {
		for _, place := range d.Places {
			e, ok := impl.ShowPlace(d, place)
			got := impl.RouteOf(e, impl.CellOfPlace(e, place)-e.Start)
			if !ok || got != place {
				t.Errorf("the route of %s = %d", callOn("ShowPlace", d, place), got)
			}
		}
	}
}

func TestP152RoutesLeadOn(t *testing.T) {
	for _, d := range displays() {
		last := 0
		for k := range d.Width {
			route := impl.RouteOf(d, k)
			if (route == -1) != (d.Start+k >= len(d.Cells)) || route >= 0 && route < last {
				t.Errorf("%s = %d behind %d", callOn("RouteOf", d, k), route, last)
			}
			last = max(last, route)
		}
	}
}

func TestP181WhatComesBehindASpaceBeginsWhereTheCellsBeforeItEnd(t *testing.T) {
	seen := 0
	eachNewDisplay(func(table []impl.Rule, text string, d impl.Display) {
		for _, at := range spaced(text) {
			seen++
			want := len(impl.TextCells(table, text[:at]))
			if got := impl.CellOfPlace(d, at); got != want {
				t.Errorf("%s for %q = %d, want %d", callOn("CellOfPlace", d, at), text, got, want)
			}
		}
	})
	if seen < 1000 {
		t.Errorf("there are only %d characters behind spaces", seen)
	}
}

func TestP200WidthsDoNotChangeTexts(t *testing.T) {
	eachNewDisplay(func(table []impl.Rule, text string, d impl.Display) {
		window := impl.WindowOf(d)
		for _, width := range []int{1, 4, 17, 40} {
			other := impl.NewDisplay(table, text, width)
			wantDisplay(t, fmt.Sprintf("NewDisplay(%v, %q, %d)", table, text, width), other, display(d.Cells, d.Places, 0, width))
			both := min(width, d.Width)
			if len(window) != d.Width || len(impl.WindowOf(other)) != width {
				t.Errorf("NewDisplay(%q) has windows of wrong widths", text)
				continue
			}
			wantCells(t, fmt.Sprintf("the beginning of the window of NewDisplay(%v, %q, %d)", table, text, width), impl.WindowOf(other)[:both], window[:both])
		}
	})
}

func TestDisplaysAreNewMemory(t *testing.T) {
	// The places stand in the spare capacity of the cells.
	all := []int{1, 3, 9, 25, 17, 2, 2, 5, 8, 8, 60, 60}
	before := fmt.Sprint(all)
	d := display(all[0:5], all[5:10], 2, 2)
	ends := display(all[0:2], all[5:7], 0, 2)
	empty := display(all[0:0], all[5:5], 0, 2)
	check := func(call string, made func() impl.Display) {
		want := fmt.Sprint(made())
		got := made()
		wantApart(t, call, [][]int{got.Cells, got.Places})
		if fmt.Sprint(all) != before {
			t.Errorf("%s changes %s to %v", call, before, all)
		}
		if again := fmt.Sprint(made()); again != want {
			t.Errorf("%s is %s at first, and then %s", call, want, again)
		}
	}
	for _, of := range []impl.Display{d, ends, empty} {
		for _, by := range []int{1, -1} {
			check("PanBy", func() impl.Display { e, _ := impl.PanBy(of, by); return e })
		}
		for place := range 10 {
			check("ShowPlace", func() impl.Display { e, _ := impl.ShowPlace(of, place); return e })
		}
		check("WindowOf", func() impl.Display { return display(impl.WindowOf(of), nil, 0, 0) })
	}
	table := english()
	check("NewDisplay", func() impl.Display { return impl.NewDisplay(table, "the dance 1a", 5) })
	if fmt.Sprint(table) != fmt.Sprint(english()) {
		t.Errorf("the table after the calls = %v", table)
	}
}
