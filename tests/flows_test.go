package tests

import (
	"fmt"
	"testing"

	"loop.example/braille/impl"
)

// flowSet is what a new line to a printer is made of.
type flowSet struct{ size, high, low, delay, every, many int }

// flow returns the new line.
func (s flowSet) flow() impl.Flow {
	return impl.Flow{Size: s.size, High: s.high, Low: s.low, Delay: s.delay, Every: s.every, Left: s.many}
}

// made returns what NewFlow makes of it.
func (s flowSet) made() impl.Flow {
	return impl.NewFlow(s.size, s.high, s.low, s.delay, s.every, s.many)
}

// valid reports whether the new line is valid.
func (s flowSet) valid() bool {
	if s.size < 1 || s.size > 40 || s.high < 1 || s.high > s.size || s.low < 0 || s.low >= s.high {
		return false
	}
	return s.delay >= 1 && s.delay <= 8 && s.every >= 1 && s.every <= 4 && s.many >= 0 && s.many <= 200
}

// safe reports whether a valid line has room for what it holds when it asks the
// sender to stop, and for a cell in each tick until it does.
func (s flowSet) safe() bool {
	return s.size-s.high >= s.delay-1
}

// sameFlow reports whether two lines to printers are the same.
func sameFlow(a, b impl.Flow) bool {
	return fmt.Sprintf("%+v", a) == fmt.Sprintf("%+v", b)
}

// emptyFlow reports whether a line to a printer is the zero value.
func emptyFlow(l impl.Flow) bool {
	return sameFlow(l, impl.Flow{})
}

// wantFlow fails the test if a line to a printer is not as it must be.
func wantFlow(t *testing.T, call string, got, want impl.Flow) {
	t.Helper()
	if !sameFlow(got, want) {
		t.Errorf("%s = %+v, want %+v", call, got, want)
	}
}

// wantRun fails the test if a line does not become another one in some ticks.
func wantRun(t *testing.T, l impl.Flow, many int, want impl.Flow) {
	t.Helper()
	got, ok := impl.RunFlow(l, many)
	if !ok || !sameFlow(got, want) {
		t.Errorf("RunFlow(%+v, %d) = %+v, %t, want %+v", l, many, got, ok, want)
	}
}

// wantNoRun fails the test if a line can run for some ticks.
func wantNoRun(t *testing.T, l impl.Flow, many int) {
	t.Helper()
	if got, ok := impl.RunFlow(l, many); ok || !emptyFlow(got) {
		t.Errorf("RunFlow(%+v, %d) = %+v, %t", l, many, got, ok)
	}
}

// ran returns a line after some ticks, and whether it is still in the limits. It
// keeps the signals by the times at which they arrive.
func ran(l impl.Flow, many int) (impl.Flow, bool) {
	mail := map[int]bool{}
	for _, s := range l.Signals {
		mail[s.At] = s.Stop
	}
	end := l.Clock + many
	for l.Clock < end {
		l.Clock++
		if stop, due := mail[l.Clock]; due {
			l.Stopped = stop
		}
		if l.Left > 0 && !l.Stopped {
			l.Left, l.Held = l.Left-1, l.Held+1
			if l.Held > l.Size {
				l.Held, l.Lost = l.Size, l.Lost+1
			}
		}
		if l.Held > 0 && l.Clock/l.Every*l.Every == l.Clock {
			l.Held, l.Printed = l.Held-1, l.Printed+1
		}
		if l.Asked && l.Held <= l.Low || !l.Asked && l.Held >= l.High {
			mail[l.Clock+l.Delay] = !l.Asked
			l.Asked = !l.Asked
		}
	}
	l.Signals = nil
	for at := l.Clock + 1; at <= l.Clock+l.Delay; at++ {
		if stop, due := mail[at]; due {
			l.Signals = append(l.Signals, impl.Signal{At: at, Stop: stop})
		}
	}
	return l, l.Clock <= 4000 && l.Printed <= 200 && l.Lost <= 200
}

// flowSets returns what valid new lines are made of: all small ones, the ones at
// the limits, and many others.
func flowSets() []flowSet {
	var all []flowSet
	for size := 1; size <= 4; size++ {
		for high := 1; high <= size; high++ {
			for low := range high {
				for _, delay := range []int{1, 2, 3, 5, 8} {
					for every := 1; every <= 4; every++ {
						for _, many := range []int{0, 1, 2, 5, 23} {
							all = append(all, flowSet{size, high, low, delay, every, many})
						}
					}
				}
			}
		}
	}
	for _, marks := range [][2]int{{40, 39}, {40, 0}, {1, 0}, {33, 32}, {33, 0}, {34, 33}, {20, 10}, {2, 1}} {
		for _, delay := range []int{1, 8} {
			for _, every := range []int{1, 4} {
				for _, many := range []int{0, 41, 199, 200} {
					all = append(all, flowSet{40, marks[0], marks[1], delay, every, many})
				}
			}
		}
	}
	seq := sequence{91}
	for range 300 {
		size := 1 + seq.next(40)
		high := 1 + seq.next(size)
		all = append(all, flowSet{size, high, seq.next(high), 1 + seq.next(8), 1 + seq.next(4), seq.next(201)})
	}
	return all
}

// randomFlow returns a valid line to a printer in any state, with any signals
// under way.
func randomFlow(seq *sequence) impl.Flow {
	size := 1 + seq.next(1+seq.next(40))
	high := 1 + seq.next(size)
	l := impl.Flow{Size: size, High: high, Low: seq.next(high), Delay: 1 + seq.next(8), Every: 1 + seq.next(4), Left: seq.next(201), Held: seq.next(size + 1), Printed: seq.next(201), Lost: seq.next(201), Stopped: seq.next(2) == 0, Asked: seq.next(2) == 0, Clock: seq.next(4001)}
	if seq.next(2) == 0 {
		l.Left, l.Printed, l.Lost = seq.next(30), seq.next(30), seq.next(30)
	}
	dense := 1 + seq.next(4)
	for at := l.Clock + 1; at <= l.Clock+l.Delay; at++ {
		if seq.next(4) < dense {
			l.Signals = append(l.Signals, impl.Signal{At: at, Stop: seq.next(2) == 0})
		}
	}
	return l
}

// flows returns valid lines to printers: the smallest and the largest ones, and
// many others.
func flows() []impl.Flow {
	all := []impl.Flow{
		{Size: 1, High: 1, Delay: 1, Every: 1},
		{Size: 40, High: 40, Low: 39, Delay: 8, Every: 4, Left: 200, Held: 40, Printed: 200, Lost: 200, Stopped: true, Asked: true, Clock: 4000},
		{Size: 2, High: 1, Delay: 2, Every: 1, Held: 2, Clock: 3999, Signals: []impl.Signal{{At: 4000}, {At: 4001, Stop: true}}},
		{Size: 2, High: 1, Delay: 8, Every: 2, Left: 9, Stopped: true, Signals: []impl.Signal{{At: 1}, {At: 2, Stop: true}, {At: 3}, {At: 4, Stop: true}, {At: 5}, {At: 6, Stop: true}, {At: 7}, {At: 8, Stop: true}}},
	}
	seq := sequence{92}
	for range 1500 {
		all = append(all, randomFlow(&seq))
	}
	return all
}

// baseFlow returns a valid line to a printer that is not next to any limit, with
// two signals that cross.
func baseFlow() impl.Flow {
	return impl.Flow{Size: 20, High: 10, Low: 5, Delay: 4, Every: 2, Left: 50, Held: 7, Printed: 60, Lost: 3, Asked: true, Clock: 100, Signals: []impl.Signal{{At: 102, Stop: true}, {At: 104}}}
}

// flowField is a number of a line to a printer, by the limits that it has in the
// base.
type flowField struct {
	name         string
	lowest, most int
	set          func(l *impl.Flow, n int)
}

// flowFields returns all numbers of lines to printers.
func flowFields() []flowField {
	return []flowField{
		{"Size", 10, 40, func(l *impl.Flow, n int) { l.Size = n }},
		{"High", 6, 20, func(l *impl.Flow, n int) { l.High = n }},
		{"Low", 0, 9, func(l *impl.Flow, n int) { l.Low = n }},
		{"Delay", 4, 8, func(l *impl.Flow, n int) { l.Delay = n }},
		{"Every", 1, 4, func(l *impl.Flow, n int) { l.Every = n }},
		{"Left", 0, 200, func(l *impl.Flow, n int) { l.Left = n }},
		{"Held", 0, 20, func(l *impl.Flow, n int) { l.Held = n }},
		{"Printed", 0, 200, func(l *impl.Flow, n int) { l.Printed = n }},
		{"Lost", 0, 200, func(l *impl.Flow, n int) { l.Lost = n }},
		{"Clock", 100, 101, func(l *impl.Flow, n int) { l.Clock = n }},
		{"At of the first signal", 101, 103, func(l *impl.Flow, n int) { l.Signals[0].At = n }},
		{"At of the last signal", 103, 104, func(l *impl.Flow, n int) { l.Signals[1].At = n }},
	}
}

// noFlows returns lines to printers that are not valid, each for one reason
// alone.
func noFlows() []impl.Flow {
	var all []impl.Flow
	for _, field := range flowFields() {
		for _, n := range append([]int{field.lowest - 1, field.lowest - 2, field.most + 1, field.most + 2, -1, -2, 5000}, far...) {
			l := baseFlow()
			field.set(&l, n)
			all = append(all, l)
		}
	}
	// Without signals, other limits of the time and the delay count.
	for _, n := range append([]int{-1, -2, 4001, 4002}, far...) {
		l := baseFlow()
		l.Signals, l.Clock = nil, n
		all = append(all, l)
	}
	for _, n := range append([]int{0, -1, 9, 10}, far...) {
		l := baseFlow()
		l.Signals, l.Delay = nil, n
		all = append(all, l)
	}
	for _, signals := range [][]impl.Signal{
		{{At: 100}}, {{At: 105}}, {{At: 0}}, {{At: 1}}, {{At: -1}}, {{At: 101}, {At: 101}}, {{At: 101, Stop: true}, {At: 101}}, {{At: 102}, {At: 101}}, {{At: 104}, {At: 103}, {At: 102}, {At: 101}},
		{{At: 101}, {At: 102}, {At: 103}, {At: 104}, {At: 105}}, {{At: 101}, {At: 103}, {At: 102}}, {{At: 100}, {At: 101}}, make([]impl.Signal, 1), make([]impl.Signal, 100000),
	} {
		l := baseFlow()
		l.Signals = signals
		all = append(all, l)
	}
	return append(all, impl.Flow{}, impl.Flow{Size: 1}, impl.Flow{Size: 1, High: 1, Delay: 1}, impl.Flow{Size: 1, High: 1, Every: 1})
}
