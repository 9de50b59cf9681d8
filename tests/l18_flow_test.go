package tests

import (
	"fmt"
	"testing"

	"loop.example/braille/impl"
)

func TestLimitsOfFlows(t *testing.T) {
	wantCells(t, "the limits", []int{impl.MaxRoom, impl.MaxDelay, impl.MaxEvery, impl.MaxData, impl.MaxTicks}, []int{40, 8, 4, 200, 4000})
}

func TestValidFlow(t *testing.T) {
	for _, l := range append(flows(), baseFlow()) {
		if !impl.ValidFlow(l) {
			t.Errorf("ValidFlow(%+v) is false", l)
		}
	}
	for _, field := range flowFields() {
		for n := field.lowest; n <= field.most; n++ {
			l := baseFlow()
			field.set(&l, n)
			if !impl.ValidFlow(l) {
				t.Errorf("ValidFlow with %s %d is false", field.name, n)
			}
		}
	}
	for mask := range 1 << 4 {
		l := baseFlow()
		l.Signals = nil
		for k := range 4 {
			if mask>>k&1 == 1 {
				l.Signals = append(l.Signals, impl.Signal{At: 101 + k, Stop: mask>>(3-k)&1 == 1})
			}
		}
		if !impl.ValidFlow(l) {
			t.Errorf("ValidFlow with the signals %v is false", l.Signals)
		}
	}
	l := baseFlow()
	for _, c := range []struct {
		clock int
		valid bool
	}{{-1, false}, {0, true}, {1, true}, {3999, true}, {4000, true}, {4001, false}} {
		l.Clock, l.Signals = c.clock, []impl.Signal{{At: c.clock + 1, Stop: true}, {At: c.clock + 4}}
		if impl.ValidFlow(l) != c.valid {
			t.Errorf("ValidFlow at the time %d is not %t", c.clock, c.valid)
		}
	}
}

func TestFlowsThatAreNotValid(t *testing.T) {
	for _, l := range noFlows() {
		if impl.ValidFlow(l) || impl.IsSafe(l) || impl.IsDone(l) {
			t.Errorf("ValidFlow, IsSafe and IsDone(%.300s) are %t, %t and %t", fmt.Sprintf("%+v", l), impl.ValidFlow(l), impl.IsSafe(l), impl.IsDone(l))
		}
		for _, many := range []int{0, 1, 30} {
			wantNoRun(t, l, many)
		}
		// They are neither safe nor done where a valid line would be.
		l.Left, l.Held = 0, 0
		if !impl.ValidFlow(l) && impl.IsDone(l) {
			t.Errorf("IsDone(%.300s) is true", fmt.Sprintf("%+v", l))
		}
	}
	for _, l := range []impl.Flow{{Size: 1, High: 0, Low: 0, Delay: 1, Every: 1}, {Size: 40, High: 1, Low: 1, Delay: 1, Every: 1}, {Size: 41, High: 1, Delay: 1, Every: 1}, {Size: 40, High: 30, Delay: 9, Every: 1}, {Size: 40, High: 1, Delay: 0, Every: 1}, {Size: 40, High: 1, Delay: 1}, {Size: 40, High: 1, Delay: 1, Every: 1, Clock: 4001}, {Size: 40, High: -1 << 63, Low: -1 << 63, Delay: 1, Every: 1}} {
		if impl.IsSafe(l) || impl.IsDone(l) {
			t.Errorf("IsSafe and IsDone(%+v) are %t and %t", l, impl.IsSafe(l), impl.IsDone(l))
		}
	}
}

func TestNewFlow(t *testing.T) {
	sizes := append([]int{-1, 0, 1, 2, 9, 39, 40, 41}, far[0], far[3])
	valid, others := 0, 0
	for _, size := range sizes {
		for _, high := range sizes {
			for _, low := range sizes {
				for _, delay := range []int{-1, 0, 1, 8, 9} {
					for _, every := range []int{-1, 0, 1, 4, 5} {
						for _, many := range []int{-1, 0, 200, 201} {
							s := flowSet{size, high, low, delay, every, many}
							if s.valid() {
								valid++
								wantFlow(t, fmt.Sprintf("NewFlow%v", s), s.made(), s.flow())
							} else if others++; !emptyFlow(s.made()) {
								t.Errorf("NewFlow%v = %+v", s, s.made())
							}
						}
					}
				}
			}
		}
	}
	if valid < 100 || others < 1000 {
		t.Errorf("%d lines are valid, and %d are not", valid, others)
	}
	for _, n := range far {
		for k := range 6 {
			list := []int{20, 10, 5, 4, 2, 50}
			list[k] = n
			if l := impl.NewFlow(list[0], list[1], list[2], list[3], list[4], list[5]); !emptyFlow(l) {
				t.Errorf("NewFlow(%v) = %+v", list, l)
			}
		}
	}
}

func TestRunFlow(t *testing.T) {
	stop := func(at int) impl.Signal { return impl.Signal{At: at, Stop: true} }
	carryOn := func(at int) impl.Signal { return impl.Signal{At: at} }
	for _, c := range []struct {
		set  flowSet
		many int
		want string
	}{
		// The printer asks the sender to stop at the mark, and to go on at the other one.
		{flowSet{4, 2, 0, 2, 2, 5}, 1, "4 1 0 false false []"}, {flowSet{4, 2, 0, 2, 2, 5}, 2, "3 1 1 false false []"},
		{flowSet{4, 2, 0, 2, 2, 5}, 3, "2 2 1 false true " + fmt.Sprint([]impl.Signal{stop(5)})}, {flowSet{4, 2, 0, 2, 2, 5}, 4, "1 2 2 false true " + fmt.Sprint([]impl.Signal{stop(5)})},
		{flowSet{4, 2, 0, 2, 2, 5}, 5, "1 2 2 true true []"}, {flowSet{4, 2, 0, 2, 2, 5}, 6, "1 1 3 true true []"}, {flowSet{4, 2, 0, 2, 2, 5}, 7, "1 1 3 true true []"},
		{flowSet{4, 2, 0, 2, 2, 5}, 8, "1 0 4 true false " + fmt.Sprint([]impl.Signal{carryOn(10)})}, {flowSet{4, 2, 0, 2, 2, 5}, 9, "1 0 4 true false " + fmt.Sprint([]impl.Signal{carryOn(10)})}, {flowSet{4, 2, 0, 2, 2, 5}, 10, "0 0 5 false false []"},
		// Signals cross: the last cell is printed before the sender is asked to stop.
		{flowSet{1, 1, 0, 8, 2, 1}, 1, "0 1 0 false true " + fmt.Sprint([]impl.Signal{stop(9)})}, {flowSet{1, 1, 0, 8, 2, 1}, 2, "0 0 1 false false " + fmt.Sprint([]impl.Signal{stop(9), carryOn(10)})},
		{flowSet{1, 1, 0, 8, 2, 1}, 8, "0 0 1 false false " + fmt.Sprint([]impl.Signal{stop(9), carryOn(10)})}, {flowSet{1, 1, 0, 8, 2, 1}, 9, "0 0 1 true false " + fmt.Sprint([]impl.Signal{carryOn(10)})}, {flowSet{1, 1, 0, 8, 2, 1}, 10, "0 0 1 false false []"},
		// A printer that is as fast as the sender never asks.
		{flowSet{1, 1, 0, 1, 1, 200}, 100, "100 0 100 false false []"}, {flowSet{1, 1, 0, 1, 1, 200}, 200, "0 0 200 false false []"}, {flowSet{1, 1, 0, 1, 1, 200}, 4000, "0 0 200 false false []"},
		// The signal of a tick arrives before a cell is sent.
		{flowSet{2, 1, 0, 1, 4, 9}, 1, "8 1 0 false true " + fmt.Sprint([]impl.Signal{stop(2)})}, {flowSet{2, 1, 0, 1, 4, 9}, 2, "8 1 0 true true []"}, {flowSet{2, 1, 0, 1, 4, 9}, 4, "8 0 1 true false " + fmt.Sprint([]impl.Signal{carryOn(5)})}, {flowSet{2, 1, 0, 1, 4, 9}, 5, "7 1 1 false true " + fmt.Sprint([]impl.Signal{stop(6)})},
	} {
		l := c.set.made()
		got, ok := impl.RunFlow(l, c.many)
		if text := fmt.Sprint(got.Left, got.Held, got.Printed, got.Stopped, got.Asked, got.Signals); !ok || text != c.want || got.Lost != 0 || got.Clock != c.many {
			t.Errorf("RunFlow(%+v, %d) = %+v, %t, want %s", l, c.many, got, ok, c.want)
		}
	}
}

func TestFullBuffers(t *testing.T) {
	for _, c := range []struct {
		set                               flowSet
		many, left, held, printed, losing int
	}{
		// A cell is lost if the buffer is full when it is sent, also if one is printed in
		// the same tick.
		{flowSet{2, 2, 0, 4, 4, 6}, 2, 4, 2, 0, 0}, {flowSet{2, 2, 0, 4, 4, 6}, 3, 3, 2, 0, 1}, {flowSet{2, 2, 0, 4, 4, 6}, 4, 2, 1, 1, 2}, {flowSet{2, 2, 0, 4, 4, 6}, 5, 1, 2, 1, 2}, {flowSet{2, 2, 0, 4, 4, 6}, 6, 1, 2, 1, 2}, {flowSet{2, 2, 0, 4, 4, 6}, 8, 1, 1, 2, 2}, {flowSet{2, 2, 0, 4, 4, 6}, 12, 1, 0, 3, 2}, {flowSet{2, 2, 0, 4, 4, 6}, 15, 1, 0, 3, 2}, {flowSet{2, 2, 0, 4, 4, 6}, 16, 0, 0, 4, 2},
		// The room is just enough, and one cell too small.
		{flowSet{3, 1, 0, 3, 4, 3}, 3, 0, 3, 0, 0}, {flowSet{2, 1, 0, 3, 4, 3}, 3, 0, 2, 0, 1}, {flowSet{1, 1, 0, 1, 4, 5}, 3, 4, 1, 0, 0}, {flowSet{1, 1, 0, 2, 4, 5}, 3, 3, 1, 0, 1},
		{flowSet{40, 33, 0, 8, 4, 200}, 50, 150, 38, 12, 0}, {flowSet{40, 33, 0, 8, 4, 200}, 51, 150, 38, 12, 0}, {flowSet{40, 40, 0, 8, 4, 200}, 53, 147, 40, 13, 0}, {flowSet{40, 40, 0, 8, 4, 200}, 59, 141, 40, 14, 5}, {flowSet{40, 40, 0, 8, 4, 200}, 61, 140, 39, 15, 6},
	} {
		l := c.set.made()
		got, ok := impl.RunFlow(l, c.many)
		if !ok || got.Left != c.left || got.Held != c.held || got.Printed != c.printed || got.Lost != c.losing {
			t.Errorf("RunFlow(%+v, %d) = %+v, %t, want %d left, %d held, %d printed, %d lost", l, c.many, got, ok, c.left, c.held, c.printed, c.losing)
		}
	}
}

func TestRunFlowOfAllStates(t *testing.T) {
	lists := flows()
	for _, s := range flowSets() {
		lists = append(lists, s.made())
	}
	run, refused := 0, 0
	seq := sequence{93}
	for _, l := range append(lists, baseFlow()) {
		for _, many := range []int{0, 1, 2, 3, 4, 7, 8, 9, 20 + seq.next(100), 4000 - l.Clock} {
			if want, ok := ran(l, many); ok {
				run++
				wantRun(t, l, many, want)
			} else {
				refused++
				wantNoRun(t, l, many)
			}
		}
	}
	if run < 1000 || refused < 300 {
		t.Errorf("%d lines are run, and %d are not", run, refused)
	}
}

func TestRunFlowForOtherTicks(t *testing.T) {
	idle := flowSet{1, 1, 0, 1, 1, 0}.made()
	for _, l := range []impl.Flow{idle, baseFlow(), flowSet{4, 2, 0, 2, 2, 5}.made()} {
		for _, many := range append([]int{-1, -2, -100, 4001, 4002}, far...) {
			wantNoRun(t, l, many)
		}
	}
	// The last time is MaxTicks.
	for _, clock := range []int{0, 1, 100, 3998, 3999, 4000} {
		l := idle
		l.Clock = clock
		later := l
		later.Clock = 4000
		wantRun(t, l, 4000-clock, later)
		wantRun(t, l, 0, l)
		for _, more := range []int{1, 2, 4000, 1<<63 - 1 - 4000} {
			wantNoRun(t, l, 4000-clock+more)
		}
	}
}

func TestRunFlowAtTheLimits(t *testing.T) {
	// The cell with the number 200 is printed or lost, but not another one.
	printing := impl.Flow{Size: 9, High: 9, Delay: 1, Every: 2, Held: 3, Printed: 198, Stopped: true}
	for many := range 4 {
		want := printing
		want.Clock, want.Held, want.Printed = many, 3-many/2, 198+many/2
		wantRun(t, printing, many, want)
	}
	printing.Held = 2
	wantRun(t, printing, 1000, impl.Flow{Size: 9, High: 9, Delay: 1, Every: 2, Printed: 200, Stopped: true, Clock: 1000})
	printing.Held = 3
	wantRun(t, printing, 5, impl.Flow{Size: 9, High: 9, Delay: 1, Every: 2, Held: 1, Printed: 200, Stopped: true, Clock: 5})
	for _, many := range []int{6, 7, 8, 1000, 4000} {
		wantNoRun(t, printing, many)
	}
	losing := impl.Flow{Size: 1, High: 1, Delay: 1, Every: 4, Left: 9, Held: 1, Lost: 198, Asked: true}
	wantRun(t, losing, 2, impl.Flow{Size: 1, High: 1, Delay: 1, Every: 4, Left: 7, Held: 1, Lost: 200, Asked: true, Clock: 2})
	for _, many := range []int{3, 4, 5, 1000} {
		wantNoRun(t, losing, many)
	}
	losing.Left = 2
	wantRun(t, losing, 3, impl.Flow{Size: 1, High: 1, Delay: 1, Every: 4, Held: 1, Lost: 200, Asked: true, Clock: 3})
	full := impl.Flow{Size: 1, High: 1, Delay: 1, Every: 1, Left: 5, Held: 1, Printed: 200, Asked: true}
	wantNoRun(t, full, 1)
	full.Printed, full.Lost = 199, 200
	wantNoRun(t, full, 1)
	full.Lost = 199
	wantRun(t, full, 1, impl.Flow{Size: 1, High: 1, Delay: 1, Every: 1, Left: 4, Printed: 200, Lost: 200, Clock: 1, Signals: []impl.Signal{{At: 2}}})
}

func TestSignalsArriveInOrder(t *testing.T) {
	// The sender goes on and stops by turns, as the signals tell.
	l := impl.Flow{Size: 9, High: 9, Delay: 6, Every: 4, Left: 9, Stopped: true, Signals: []impl.Signal{{At: 2}, {At: 3, Stop: true}, {At: 5}, {At: 6, Stop: true}}}
	for many, left := range []int{9, 9, 8, 8, 8, 7, 7, 7} {
		got, ok := impl.RunFlow(l, many)
		if !ok || got.Left != left || got.Stopped != (many != 2 && many != 5) || fmt.Sprint(got.Signals) != fmt.Sprint(l.Signals[[]int{0, 0, 1, 2, 2, 3, 4, 4}[many]:]) {
			t.Errorf("RunFlow(%+v, %d) = %+v, %t", l, many, got, ok)
		}
	}
	// A signal that tells the sender what it does already changes nothing.
	l = impl.Flow{Size: 9, High: 9, Delay: 2, Every: 4, Left: 9, Signals: []impl.Signal{{At: 1}, {At: 2}}}
	wantRun(t, l, 3, impl.Flow{Size: 9, High: 9, Delay: 2, Every: 4, Left: 6, Held: 3, Clock: 3})
}

func TestIsSafe(t *testing.T) {
	safe, others := 0, 0
	for size := 1; size <= 40; size++ {
		for high := 1; high <= size; high++ {
			for delay := 1; delay <= 8; delay++ {
				s := flowSet{size, high, high - 1, delay, 1 + size%4, size * 5}
				if impl.IsSafe(s.made()) != s.safe() {
					t.Errorf("IsSafe of NewFlow%v is not %t", s, s.safe())
				}
				if s.safe() {
					safe++
				} else {
					others++
				}
			}
		}
	}
	if safe < 1000 || others < 100 {
		t.Errorf("%d lines are safe, and %d are not", safe, others)
	}
	for _, l := range flows() {
		if impl.IsSafe(l) != (l.High+l.Delay <= l.Size+1) {
			t.Errorf("IsSafe(%+v) is %t", l, impl.IsSafe(l))
		}
	}
}

func TestIsDone(t *testing.T) {
	done := 0
	for _, l := range flows() {
		for k := range 4 {
			if k%2 == 1 {
				l.Left = 0
			}
			if k > 1 {
				l.Held = 0
			}
			if impl.IsDone(l) != (l.Left == 0 && l.Held == 0) {
				t.Errorf("IsDone(%+v) is %t", l, impl.IsDone(l))
			}
			if impl.IsDone(l) {
				done++
			}
		}
	}
	if done < 1000 {
		t.Errorf("only %d lines are done", done)
	}
}

func TestP116LinesCanRun(t *testing.T) {
	for _, l := range flows() {
		wantRun(t, l, 0, l)
	}
	for _, s := range flowSets() {
		wantRun(t, s.made(), 0, s.made())
	}
}

func TestP117NewLinesHaveEverythingToSend(t *testing.T) {
	for _, s := range flowSets() {
		if !impl.ValidFlow(s.made()) {
			t.Errorf("NewFlow%v is not valid", s)
		}
		wantFlow(t, fmt.Sprintf("NewFlow%v", s), s.made(), impl.Flow{Size: s.size, High: s.high, Low: s.low, Delay: s.delay, Every: s.every, Left: s.many})
	}
}

// eachTick calls a function for each line that a new line becomes, tick by tick,
// until some ticks behind the time at which it is done.
func eachTick(t *testing.T, s flowSet, f func(l impl.Flow)) {
	t.Helper()
	l := s.made()
	for behind := 0; behind < 12 && l.Clock < 4000; {
		f(l)
		next, ok := impl.RunFlow(l, 1)
		if !ok {
			t.Fatalf("RunFlow(%+v, 1) is false", l)
		}
		if impl.IsDone(l) {
			behind++
		}
		l = next
	}
}

func TestP118SafeLinesLoseNothing(t *testing.T) {
	safe, full := 0, 0
	for _, s := range flowSets() {
		if !impl.IsSafe(s.made()) {
			continue
		}
		safe++
		eachTick(t, s, func(l impl.Flow) {
			if l.Lost != 0 || l.Held >= s.high+s.delay {
				t.Errorf("NewFlow%v becomes %+v", s, l)
			}
			if l.Held == l.Size {
				full++
			}
		})
	}
	if safe < 100 || full < 10 {
		t.Errorf("%d lines are safe, and full in %d ticks", safe, full)
	}
}

func TestP119AllIsPrintedInTheEnd(t *testing.T) {
	for _, s := range flowSets() {
		// Both are meant by the document: one more than all cells, and one tick more.
		for _, ticks := range []int{(s.many+1)*(s.every+s.delay+1) + s.every, s.many*(s.every+s.delay+1) + 1 + s.every} {
			l, ok := impl.RunFlow(s.made(), ticks)
			if !ok || !impl.IsDone(l) || l.Printed+l.Lost != s.many {
				t.Errorf("RunFlow of NewFlow%v for %d ticks = %+v, %t", s, ticks, l, ok)
			}
		}
	}
}

func TestP120PrintingTakesItsTime(t *testing.T) {
	busy := 0
	for _, s := range flowSets() {
		eachTick(t, s, func(l impl.Flow) {
			if l.Printed*s.every > l.Clock {
				t.Errorf("NewFlow%v becomes %+v", s, l)
			}
			if l.Printed*s.every == l.Clock && l.Clock > 0 {
				busy++
			}
		})
	}
	if busy < 1000 {
		t.Errorf("the printer is busy in only %d ticks", busy)
	}
}

func TestP121NothingVanishes(t *testing.T) {
	run := 0
	for _, l := range flows() {
		for _, many := range []int{0, 1, 2, 5, 13, 60, 400} {
			after, ok := impl.RunFlow(l, many)
			if !ok {
				continue
			}
			run++
			if !impl.ValidFlow(after) || after.Left+after.Held+after.Printed+after.Lost != l.Left+l.Held+l.Printed+l.Lost {
				t.Errorf("RunFlow(%+v, %d) = %+v", l, many, after)
			}
		}
	}
	for _, s := range flowSets() {
		eachTick(t, s, func(l impl.Flow) {
			if !impl.ValidFlow(l) || l.Left+l.Held+l.Printed+l.Lost != s.many {
				t.Errorf("NewFlow%v becomes %+v", s, l)
			}
		})
	}
	if run < 1000 {
		t.Errorf("only %d lines are run", run)
	}
}

func TestP122RunsAddUp(t *testing.T) {
	lists := flows()
	for _, s := range flowSets() {
		lists = append(lists, s.made())
	}
	added := 0
	for _, l := range lists {
		for _, first := range []int{0, 1, 2, 3, 8, 30} {
			between, ok := impl.RunFlow(l, first)
			if !ok {
				continue
			}
			for _, second := range []int{0, 1, 4, 9, 50} {
				if after, ok := impl.RunFlow(between, second); ok {
					added++
					wantRun(t, l, first+second, after)
				} else {
					wantNoRun(t, l, first+second)
				}
			}
		}
	}
	if added < 1000 {
		t.Errorf("only %d runs are added", added)
	}
}

func TestP123TimeDoesNotGoBack(t *testing.T) {
	for _, l := range flows() {
		for _, many := range []int{0, 1, 2, 3, 11, 90} {
			after, ok := impl.RunFlow(l, many)
			if !ok {
				continue
			}
			sent := l.Left - after.Left
			if after.Left < 0 || sent < 0 || sent > many || after.Printed < l.Printed || after.Lost < l.Lost || after.Clock != l.Clock+many {
				t.Errorf("RunFlow(%+v, %d) = %+v", l, many, after)
			}
		}
	}
}

func TestP124MoreRoomIsSafer(t *testing.T) {
	safer := 0
	for _, l := range flows() {
		for impl.IsSafe(l) {
			l.Size++
			if l.Size > 40 {
				break
			}
			safer++
			if !impl.IsSafe(l) {
				t.Errorf("IsSafe(%+v) is false", l)
			}
		}
	}
	if safer < 1000 {
		t.Errorf("only %d lines have more room", safer)
	}
}

func TestP125WhatIsDoneStaysDone(t *testing.T) {
	stays := 0
	for _, l := range flows() {
		l.Left, l.Held = 0, 0
		for range 30 {
			after, ok := impl.RunFlow(l, 1)
			if l.Clock == 4000 {
				break
			}
			if !ok || !impl.IsDone(l) || !impl.IsDone(after) || after.Printed != l.Printed || after.Lost != l.Lost {
				t.Errorf("RunFlow(%+v, 1) = %+v, %t", l, after, ok)
				break
			}
			l = after
			stays++
		}
	}
	if stays < 1000 {
		t.Errorf("lines stay done for only %d ticks", stays)
	}
}

func TestFlowsAreNewMemory(t *testing.T) {
	signals := append(make([]impl.Signal, 0, 9), impl.Signal{At: 102, Stop: true}, impl.Signal{At: 104})
	l := baseFlow()
	l.Signals = signals
	// The printer asks for a third signal at once.
	l.Held = 5
	before := fmt.Sprint(l, signals[:9])
	for many := range 12 {
		want, _ := ran(l, many)
		one, _ := impl.RunFlow(l, many)
		other, _ := impl.RunFlow(l, many)
		one.Signals = one.Signals[:cap(one.Signals)]
		for i := range one.Signals {
			one.Signals[i] = impl.Signal{At: -7}
		}
		wantFlow(t, "the other line after the calls", other, want)
		if fmt.Sprint(l, signals[:9]) != before {
			t.Fatalf("the line after the calls is %+v, with %v", l, signals[:9])
		}
	}
	made := baseFlow()
	impl.ValidFlow(made)
	impl.IsSafe(made)
	impl.IsDone(made)
	wantFlow(t, "the line after the calls", made, baseFlow())
}
