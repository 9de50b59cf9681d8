package tests

import (
	"fmt"
	"strings"
	"testing"

	"loop.example/braille/impl"
)

// display returns a display of cells and their places.
func display(cells, places []int, start, width int) impl.Display {
	return impl.Display{Cells: cells, Places: places, Start: start, Width: width}
}

// rising returns the places of many cells, each greater than the one before it
// by a step, but all at most the greatest one.
func rising(many, first, step int) []int {
	places := make([]int, many)
	for i := range places {
		places[i] = min(first+i*step, 59)
	}
	return places
}

// randomDisplay returns a valid display, whose places may have gaps.
func randomDisplay(seq *sequence) impl.Display {
	d := impl.Display{Width: 1 + seq.next(40)}
	place := seq.next(20)
	steps := 1 + seq.next(4)
	for range seq.next(201) {
		d.Cells = append(d.Cells, seq.next(64))
		d.Places = append(d.Places, min(place, 59))
		place += seq.next(steps)
	}
	if len(d.Cells) > 0 {
		d.Start = seq.next(len(d.Cells)) / d.Width * d.Width
	}
	return d
}

// displays returns valid displays: without cells, of one cell, of as many as
// there can be, with places that begin late, have gaps or are all the same, and
// many others.
func displays() []impl.Display {
	all := []impl.Display{
		display(nil, nil, 0, 1), display(nil, nil, 0, 40), display([]int{}, []int{}, 0, 7),
		display([]int{0}, []int{0}, 0, 1), display([]int{63}, []int{59}, 0, 40), display([]int{5}, []int{30}, 0, 2),
		display([]int{1, 3}, []int{0, 59}, 1, 1), display([]int{1, 3}, []int{59, 59}, 0, 2), display([]int{1, 3, 9}, []int{7, 7, 7}, 2, 2),
		display([]int{1, 3, 9}, []int{4, 8, 8}, 0, 1), display([]int{1, 3, 9, 25}, []int{4, 4, 8, 8}, 2, 2),
	}
	for _, width := range []int{1, 2, 3, 7, 39, 40} {
		for _, many := range []int{width - 1, width, width + 1, 2 * width, 199, 200} {
			last := max(0, many-1) / width * width
			for _, start := range []int{0, width, last} {
				if start <= last {
					all = append(all,
						display(filled(many, 63), rising(many, 0, 1), start, width),
						display(filled(many, 0), filled(many, 59), start, width),
						display(filled(many, 1), rising(many, 10, 2), start, width),
					)
				}
			}
		}
	}
	seq := sequence{111}
	for range 300 {
		all = append(all, randomDisplay(&seq))
	}
	return all
}

// eachNewDisplay calls a function with the displays of some texts by all
// tables.
func eachNewDisplay(f func(table []impl.Rule, text string, d impl.Display)) {
	all := texts()
	for i, table := range tables() {
		for k, text := range all {
			if len(text) <= 3 && k%7 != i%7 {
				continue
			}
			width := []int{1, 2, 3, 5, 8, 13, 20, 39, 40}[(i+k)%9]
			f(table, text, impl.NewDisplay(table, text, width))
		}
	}
}

// noDisplays returns displays that are not valid, each for one reason alone.
func noDisplays() []impl.Display {
	cells, places := []int{1, 3, 9, 25, 17, 11}, []int{2, 3, 3, 5, 8, 9}
	all := []impl.Display{
		{},
		// The start is no multiple of the width.
		display(cells, places, 1, 2), display(cells, places, 3, 2), display(cells, places, 5, 4), display(cells, places, 1, 40), display(cells, places, 5, 40),
		// It is behind the last cell, or before the first one.
		display(cells, places, 6, 2), display(cells, places, 8, 2), display(cells, places, 6, 1), display(cells, places, 40, 40), display(cells, places, -2, 2), display(cells, places, -1, 1), display(cells, places, -40, 40),
		display(nil, nil, 1, 1), display(nil, nil, 2, 2), display(nil, nil, 40, 40), display(nil, nil, -1, 1), display(nil, nil, -40, 40),
		display(filled(200, 1), filled(200, 0), 200, 40), display(filled(200, 1), filled(200, 0), 200, 1),
		// There are too many cells, or not as many places.
		display(filled(201, 1), filled(201, 0), 0, 40), display(filled(201, 1), filled(200, 0), 0, 40), display(filled(100000, 1), filled(100000, 0), 0, 1),
		display(cells, places[:5], 0, 2), display(cells[:5], places, 0, 2), display(cells, nil, 0, 2), display(nil, places, 0, 2), display(nil, []int{0}, 0, 1), display([]int{0}, nil, 0, 1), display(filled(200, 1), filled(201, 0), 0, 40), display(nil, filled(100000, 0), 0, 40),
		// A place is less than the one before it, or none of a text.
		display(cells, []int{2, 3, 2, 5, 8, 9}, 0, 2), display(cells, []int{3, 2, 3, 5, 8, 9}, 0, 2), display(cells, []int{2, 3, 3, 5, 9, 8}, 0, 2), display([]int{1, 3}, []int{59, 0}, 0, 2),
		display(cells, []int{-1, 3, 3, 5, 8, 9}, 0, 2), display(cells, []int{2, 3, 3, 5, 8, 60}, 0, 2), display([]int{1}, []int{60}, 0, 1), display([]int{1}, []int{-1}, 0, 1),
	}
	for _, n := range noCells {
		all = append(all, display([]int{n}, []int{0}, 0, 1), display([]int{1, 3, n}, []int{0, 1, 2}, 0, 1), display([]int{n, 3, 1}, []int{0, 1, 2}, 0, 1))
	}
	for _, n := range noWidths {
		all = append(all, display(cells, places, 0, n), display(nil, nil, 0, n), display(cells, places, n, n))
	}
	for _, n := range far {
		all = append(all, display(cells, places, n, 2), display(cells, places, n, 1), display(nil, nil, n, 1), display(nil, nil, n, 40), display([]int{1}, []int{n}, 0, 1), display([]int{1, 3}, []int{0, n}, 0, 1))
	}
	return all
}

// sameDisplay reports whether two displays are the same.
func sameDisplay(a, b impl.Display) bool {
	return equal(a.Cells, b.Cells) && equal(a.Places, b.Places) && a.Start == b.Start && a.Width == b.Width
}

// wantDisplay fails the test if a display is not as it must be.
func wantDisplay(t *testing.T, call string, got, want impl.Display) {
	t.Helper()
	if !sameDisplay(got, want) {
		t.Errorf("%s = %v, want %v", call, got, want)
	}
}

// startingAt returns a display that begins with another cell.
func startingAt(d impl.Display, start int) impl.Display {
	d.Start = start
	return d
}

// windowSeen returns the cells that a display shows, from all cells with spaces
// behind them.
func windowSeen(d impl.Display) []int {
	return joined(d.Cells, filled(d.Width, 0))[d.Start:][:d.Width]
}

// firstShown returns the first cell that shows a place, or the nearest one
// before it, going back from place to place.
func firstShown(d impl.Display, place int) int {
	for ; place >= 0; place-- {
		for i, p := range d.Places {
			if p == place {
				return i
			}
		}
	}
	return -1
}

// startFor returns the start of the window in which a cell is, going on from
// window to window.
func startFor(d impl.Display, cell int) int {
	start := 0
	for start+d.Width <= cell {
		start += d.Width
	}
	return start
}

// routeSeen returns the place that a key leads to, from all places with -1
// behind them.
func routeSeen(d impl.Display, k int) int {
	if k < 0 || k >= d.Width {
		return -1
	}
	return joined(d.Places, filled(d.Width, -1))[d.Start+k]
}

// callOn returns how a call with a display is named, in not too many
// characters.
func callOn(name string, d impl.Display, more ...any) string {
	call := fmt.Sprintf("%.400s", fmt.Sprint(d))
	for _, a := range more {
		call += fmt.Sprintf(", %v", a)
	}
	return fmt.Sprintf("%s(%s)", name, call)
}

// isZeroDisplay reports whether a display is the zero value.
func isZeroDisplay(d impl.Display) bool {
	return sameDisplay(d, impl.Display{})
}

// wantNoDisplay fails the test if any function does anything with a display that
// is not valid.
func wantNoDisplay(t *testing.T, d impl.Display) {
	t.Helper()
	if impl.ValidDisplay(d) {
		t.Errorf("%s is true", callOn("ValidDisplay", d))
	}
	if window := impl.WindowOf(d); len(window) > 0 {
		t.Errorf("%s = %v", callOn("WindowOf", d), window)
	}
	for _, by := range []int{1, -1, 0} {
		if e, ok := impl.PanBy(d, by); ok || !isZeroDisplay(e) {
			t.Errorf("%s = %v, %t", callOn("PanBy", d, by), e, ok)
		}
	}
	for _, n := range []int{0, 1, 3, 59, 60, -1} {
		if e, ok := impl.ShowPlace(d, n); ok || !isZeroDisplay(e) {
			t.Errorf("%s = %v, %t", callOn("ShowPlace", d, n), e, ok)
		}
		if got := impl.CellOfPlace(d, n); got != -1 {
			t.Errorf("%s = %d", callOn("CellOfPlace", d, n), got)
		}
		if got := impl.RouteOf(d, n); got != -1 {
			t.Errorf("%s = %d", callOn("RouteOf", d, n), got)
		}
	}
}

// spaced returns the numbers of characters before which there is a space in a
// text.
func spaced(text string) []int {
	var all []int
	for i := 1; i < len(text); i++ {
		if strings.HasSuffix(text[:i], " ") {
			all = append(all, i)
		}
	}
	return all
}
