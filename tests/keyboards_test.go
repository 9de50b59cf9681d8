package tests

import (
	"fmt"

	"loop.example/braille/impl"
)

// keyCodes has the code of each key alone, by its number.
var keyCodes = []int{0, 1, 2, 4, 8, 16, 32, 64}

// noKeys are numbers that are no keys, pressed or released.
var noKeys = append([]int{0, 8, -8, 9, -9, 64, -64, 127}, far...)

// taps returns the events of pressing and releasing one key, many times.
func taps(key, many int) []int {
	var events []int
	for range many {
		events = append(events, key, -key)
	}
	return events
}

// chordOf returns the events of pressing keys in order, and of releasing them in
// the same order.
func chordOf(keys ...int) []int {
	events := joined(keys)
	for _, key := range keys {
		events = append(events, -key)
	}
	return events
}

// backwards returns events in reverse order, with pressing for release.
func backwards(events []int) []int {
	var back []int
	for _, event := range reversed(events) {
		back = append(back, -event)
	}
	return back
}

// alternates reports whether the events of each key are pressing and release by
// turns, and those of no key end with pressing.
func alternates(events []int) bool {
	turns := map[int]int{}
	for _, event := range events {
		key := max(event, -event)
		if key < 1 || key > 7 || event > 0 != (turns[key]%2 == 0) {
			return false
		}
		turns[key]++
	}
	for _, many := range turns {
		if many%2 > 0 {
			return false
		}
	}
	return true
}

// played returns the codes of valid events, by cutting them where as many keys
// were released as were pressed.
func played(events []int) []int {
	var codes []int
	from, balance := 0, 0
	for i, event := range events {
		if event > 0 {
			balance++
		} else {
			balance--
		}
		if balance > 0 {
			continue
		}
		code := 0
		for key := 1; key <= 7; key++ {
			if count(events[from:i+1], key) > 0 {
				code += keyCodes[key]
			}
		}
		codes = append(codes, code)
		from = i + 1
	}
	return codes
}

// randomEvents returns at most many valid events, at each of which any key is
// pressed or released, and behind which all keys are released.
func randomEvents(seq *sequence, many int) []int {
	var events, down []int
	for len(events)+len(down)+2 <= many {
		key := 1 + seq.next(7)
		if count(down, key) > 0 {
			events = append(events, -key)
			var left []int
			for _, other := range down {
				if other != key {
					left = append(left, other)
				}
			}
			down = left
		} else if len(down) < 3 || seq.next(4) == 0 {
			events = append(events, key)
			down = append(down, key)
		}
	}
	for _, key := range down {
		events = append(events, -key)
	}
	return events
}

// keyEvents returns valid events: none, each key alone, all keys together,
// overlapping ones, the most there can be, and many others.
func keyEvents() [][]int {
	all := [][]int{
		nil, {},
		chordOf(1, 2, 3, 4, 5, 6, 7), chordOf(7, 6, 5, 4, 3, 2, 1), {1, 2, -2, -1}, {1, 2, -1, -2}, {1, 2, -1, 3, -2, -3}, {1, 2, -1, 1, -1, -2}, {7, 1, -1, 1, -1, 2, -2, -7, 3, -3},
		taps(7, impl.MaxEvents/2), taps(1, impl.MaxEvents/2), joined([]int{1}, taps(2, impl.MaxEvents/2-1), []int{-1}),
	}
	for key := 1; key <= 7; key++ {
		all = append(all, taps(key, 1), taps(key, 2), taps(key, impl.MaxEvents/4))
	}
	var full []int
	for range impl.MaxEvents / 14 {
		full = append(full, chordOf(3, 1, 7, 2, 6, 5, 4)...)
	}
	all = append(all, full)
	seq := sequence{71}
	for i := range 600 {
		all = append(all, randomEvents(&seq, i%(impl.MaxEvents+1)))
	}
	return all
}

// noEvents returns events that are not valid, each for one reason alone.
func noEvents() [][]int {
	all := [][]int{
		// A key is pressed that is down, or released that is not.
		{1, 1, -1}, {1, 1, -1, -1}, {1, 2, 1, -1, -2}, {-1}, {-1, 1}, {1, -1, -1}, {1, -2, -1}, {1, -2, 2, -1}, {7, 7, -7}, {-7}, {-7, 7}, {1, 2, -1, -1, -2}, {1, -1, -1, 1},
		// The codes of the keys would be right, if they were only added.
		{1, 1, -2}, {6, 6, -7}, {1, 3, 3, -4, -1}, {2, -1, -1}, {7, -6, -6}, {1, 4, -3, -3, -1}, {3, -1, -1, -2},
		// A key is down at the end.
		{1}, {7}, {1, 2, -1}, {1, 2, -2}, {1, -1, 1}, {1, -1, 7}, {7, -7, 1, 2, 3, -1, -3},
		// There are too many.
		taps(1, 141), taps(7, 142), taps(1, 100000), joined(taps(2, 139), chordOf(1, 2)), joined(taps(2, 140), []int{1}),
	}
	for _, n := range noKeys {
		all = append(all, []int{n}, []int{n, -n}, []int{-n, n}, []int{1, n, -1}, []int{1, n, -n, -1}, []int{n, 1, -1}, []int{1, -1, n}, joined(taps(3, 5), []int{n}))
	}
	return all
}

// codeLists returns lists of codes: none, all of one code, all of two of the
// codes that matter, the longest ones, and many others.
func codeLists() [][]int {
	all := [][]int{nil, {}, filled(20, 127), filled(20, 64), filled(20, 1), filled(19, 85)}
	for code := 1; code <= 127; code++ {
		all = append(all, []int{code})
	}
	matter := []int{1, 2, 3, 4, 32, 42, 63, 64, 65, 85, 126, 127}
	for _, one := range matter {
		for _, two := range matter {
			all = append(all, []int{one, two})
		}
	}
	seq := sequence{72}
	for i := range 400 {
		list := make([]int, i%21)
		for k := range list {
			list[k] = 1 + seq.next(127)
		}
		all = append(all, list)
	}
	return all
}

// noCodeLists returns lists that are no lists of codes, each for one reason
// alone.
func noCodeLists() [][]int {
	all := [][]int{filled(21, 1), filled(22, 127), filled(100000, 64), joined(filled(20, 3), []int{64})}
	for _, n := range append([]int{0, -1, -2, -64, -127, 128, 129, 255, 256}, far...) {
		all = append(all, []int{n}, []int{3, n}, []int{n, 3}, joined(filled(19, 1), []int{n}))
	}
	return all
}

// keysFor returns the events by which codes are played, told by division.
func keysFor(codes []int) []int {
	var events []int
	for _, code := range codes {
		var keys []int
		for key := 1; key <= 7; key++ {
			if code/keyCodes[key]%2 == 1 {
				keys = append(keys, key)
			}
		}
		events = append(events, chordOf(keys...)...)
	}
	return events
}

// shortEvents returns all lists of at most many events of three keys, two of them
// neighbours, and of one that is none.
func shortEvents(many int) [][]int {
	return allLists([]int{1, -1, 6, -6, 7, -7, 8}, many)
}

// callOf returns the text of a call with some events.
func callOf(name string, events []int) string {
	return fmt.Sprintf("%s(%v)", name, events)
}
