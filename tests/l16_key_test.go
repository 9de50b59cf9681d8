package tests

import (
	"testing"

	"loop.example/braille/impl"
)

// wantNoKeys fails the test if events are valid, or have codes.
func wantNoKeys(t *testing.T, events []int) {
	t.Helper()
	if impl.ValidKeys(events) {
		t.Errorf("%s is true", callOf("ValidKeys", events))
	}
	if codes := impl.PlayKeys(events); len(codes) > 0 {
		t.Errorf("%s = %v", callOf("PlayKeys", events), codes)
	}
}

// wantKeys fails the test if events are not valid, or do not have the codes.
func wantKeys(t *testing.T, events, codes []int) {
	t.Helper()
	if !impl.ValidKeys(events) {
		t.Errorf("%s is false", callOf("ValidKeys", events))
	}
	wantCells(t, callOf("PlayKeys", events), impl.PlayKeys(events), codes)
}

func TestLimitsOfKeys(t *testing.T) {
	if impl.MaxEvents != 280 || impl.MaxCodes != 20 {
		t.Errorf("MaxEvents and MaxCodes are %d and %d", impl.MaxEvents, impl.MaxCodes)
	}
}

func TestPlayKeys(t *testing.T) {
	for _, c := range []struct{ events, codes []int }{
		{nil, nil}, {[]int{}, nil},
		// One key alone.
		{[]int{1, -1}, []int{1}}, {[]int{2, -2}, []int{2}}, {[]int{3, -3}, []int{4}}, {[]int{4, -4}, []int{8}}, {[]int{5, -5}, []int{16}}, {[]int{6, -6}, []int{32}}, {[]int{7, -7}, []int{64}},
		// Keys together, in any order.
		{[]int{1, 2, -1, -2}, []int{3}}, {[]int{2, 1, -1, -2}, []int{3}}, {[]int{2, 1, -2, -1}, []int{3}}, {[]int{6, 1, 7, -6, -7, -1}, []int{97}}, {chordOf(7, 6, 5, 4, 3, 2, 1), []int{127}},
		// Keys that are never down all at the same time.
		{[]int{1, 2, -1, 3, -2, -3}, []int{7}}, {[]int{1, 2, -1, 3, -2, 7, -3, -7}, []int{71}},
		// A key that is pressed again counts once.
		{[]int{1, 2, -1, 1, -1, -2}, []int{3}}, {[]int{7, 1, -1, 1, -1, 1, -1, -7}, []int{65}}, {[]int{7, 1, -1, 2, -2, 1, -1, -7}, []int{67}},
		// One code after the other.
		{[]int{1, -1, 1, -1}, []int{1, 1}}, {[]int{1, -1, 2, -2}, []int{1, 2}}, {[]int{1, 2, -2, -1, 3, -3, 7, -7, 4, 1, -1, -4}, []int{3, 4, 64, 9}},
		// A key that was pressed for the last code does not count for the next one.
		{[]int{1, 2, -1, -2, 2, 3, -3, -2, 1, -1}, []int{3, 6, 1}},
	} {
		wantKeys(t, c.events, c.codes)
	}
}

func TestPlayKeysOfAllKinds(t *testing.T) {
	for _, events := range keyEvents() {
		wantKeys(t, events, played(events))
	}
}

func TestAllShortEvents(t *testing.T) {
	valid := 0
	for _, events := range shortEvents(6) {
		if alternates(events) {
			valid++
			wantKeys(t, events, played(events))
		} else {
			wantNoKeys(t, events)
		}
	}
	if valid < 100 {
		t.Errorf("only %d lists of events are valid", valid)
	}
}

func TestOtherEvents(t *testing.T) {
	for _, events := range noEvents() {
		wantNoKeys(t, events)
	}
}

func TestEventsOfTheLimitAreValid(t *testing.T) {
	for many := 136; many <= 144; many++ {
		for key := 1; key <= 7; key++ {
			if many <= 140 {
				wantKeys(t, taps(key, many), filled(many, keyCodes[key]))
			} else {
				wantNoKeys(t, taps(key, many))
			}
		}
	}
	for key := -12; key <= 12; key++ {
		if valid := key >= 1 && key <= 7; impl.ValidKeys([]int{key, -key}) != valid {
			t.Errorf("ValidKeys of pressing and releasing %d is not %t", key, valid)
		}
	}
}

func TestKeysOf(t *testing.T) {
	for _, c := range []struct{ codes, events []int }{
		{nil, nil}, {[]int{1}, []int{1, -1}}, {[]int{64}, []int{7, -7}}, {[]int{3, 64}, []int{1, 2, -1, -2, 7, -7}}, {[]int{42}, []int{2, 4, 6, -2, -4, -6}}, {[]int{4, 4}, []int{3, -3, 3, -3}},
		{[]int{127}, []int{1, 2, 3, 4, 5, 6, 7, -1, -2, -3, -4, -5, -6, -7}}, {[]int{65, 16, 40}, []int{1, 7, -1, -7, 5, -5, 4, 6, -4, -6}},
	} {
		wantCells(t, callOf("KeysOf", c.codes), impl.KeysOf(c.codes), c.events)
	}
	for _, codes := range codeLists() {
		wantCells(t, callOf("KeysOf", codes), impl.KeysOf(codes), keysFor(codes))
	}
	if many := len(impl.KeysOf(filled(20, 127))); many != 280 {
		t.Errorf("KeysOf of the most codes has %d events", many)
	}
}

func TestKeysOfOtherCodes(t *testing.T) {
	for _, codes := range noCodeLists() {
		if events := impl.KeysOf(codes); len(events) > 0 {
			t.Errorf("%s = %v", callOf("KeysOf", codes), events)
		}
	}
	for code := -130; code <= 260; code++ {
		if valid := code >= 1 && code <= 127; (len(impl.KeysOf([]int{code})) > 0) != valid {
			t.Errorf("KeysOf of the code %d is valid: %t", code, valid)
		}
	}
	for many := 17; many <= 24; many++ {
		if events := impl.KeysOf(filled(many, 64)); many <= 20 && len(events) != 2*many || many > 20 && len(events) > 0 {
			t.Errorf("KeysOf of %d codes = %v", many, events)
		}
	}
}

func TestP103KeysArePressedAndReleased(t *testing.T) {
	twice := 0
	for _, events := range keyEvents() {
		if !impl.ValidKeys(events) {
			t.Errorf("%s is false", callOf("ValidKeys", events))
		}
		for key := 1; key <= 7; key++ {
			// With one release more or less, or one pressing more, they are not valid.
			wantNoKeys(t, joined(events, []int{-key}))
			wantNoKeys(t, joined(events, []int{key}))
		}
		if len(events) > 0 {
			wantNoKeys(t, events[:len(events)-1])
			wantNoKeys(t, events[1:])
		}
		if 2*len(events) <= 280 {
			twice++
			if !impl.ValidKeys(joined(events, events)) {
				t.Errorf("%s is false", callOf("ValidKeys", joined(events, events)))
			}
		} else {
			wantNoKeys(t, joined(events, events))
		}
	}
	for _, events := range shortEvents(5) {
		for key := 1; key <= 7; key++ {
			if impl.ValidKeys(events) && count(events, key) != count(events, -key) {
				t.Errorf("%s is true", callOf("ValidKeys", events))
			}
		}
	}
	if twice < 100 {
		t.Errorf("only %d events have room twice", twice)
	}
}

func TestP104CodesHaveKeys(t *testing.T) {
	for _, events := range append(keyEvents(), shortEvents(6)...) {
		pressed := 0
		for key := 1; key <= 7; key++ {
			pressed += count(events, key)
		}
		codes := impl.PlayKeys(events)
		if len(codes) > pressed {
			t.Errorf("%s = %v", callOf("PlayKeys", events), codes)
		}
		for _, code := range codes {
			if code < 1 || code > 127 {
				t.Errorf("%s = %v", callOf("PlayKeys", events), codes)
			}
		}
	}
}

func TestP105WhatIsPlayedTwiceIsWrittenTwice(t *testing.T) {
	for _, events := range keyEvents() {
		if 2*len(events) <= 280 {
			codes := impl.PlayKeys(events)
			wantKeys(t, joined(events, events), joined(codes, codes))
		}
	}
}

func TestP106WhatIsPlayedBackwardsIsWrittenBackwards(t *testing.T) {
	for _, events := range keyEvents() {
		wantKeys(t, backwards(events), reversed(impl.PlayKeys(events)))
	}
}

func TestP107CodesArePlayed(t *testing.T) {
	for _, codes := range codeLists() {
		wantKeys(t, impl.KeysOf(codes), codes)
	}
}

func TestP108EachCodeHasItsOwnEvents(t *testing.T) {
	for _, codes := range codeLists() {
		if len(codes) > 0 {
			wantCells(t, callOf("KeysOf", codes), impl.KeysOf(codes), joined(impl.KeysOf(codes[:1]), impl.KeysOf(codes[1:])))
		}
	}
}

func TestP109TextsCanBeTyped(t *testing.T) {
	typed := 0
	for _, text := range plainTexts() {
		cells := impl.PlainCells(text)
		codes := joined(cells[:min(20, len(cells))])
		for i := range codes {
			if codes[i] == 0 {
				codes[i] = 64
			}
		}
		typed += len(codes)
		if !equal(impl.PlayKeys(impl.KeysOf(codes)), codes) {
			t.Errorf("PlayKeys of KeysOf(%v), from %q, = %v", codes, text, impl.PlayKeys(impl.KeysOf(codes)))
		}
	}
	if typed < 1000 {
		t.Errorf("only %d cells are typed", typed)
	}
}

func TestP195TheSpaceBarMakesSpaces(t *testing.T) {
	for _, events := range keyEvents() {
		more := joined(events, []int{7, -7})
		if len(more) <= 280 {
			wantKeys(t, more, joined(impl.PlayKeys(events), []int{64}))
		} else {
			wantNoKeys(t, more)
		}
	}
}

func TestKeysAreNewMemory(t *testing.T) {
	events := append(make([]int, 0, 30), 1, 2, -1, -2, 7, -7)
	codes := append(make([]int, 0, 30), 3, 64)
	for range 2 {
		wantCells(t, "PlayKeys", impl.PlayKeys(events), []int{3, 64})
		wantCells(t, "KeysOf", impl.KeysOf(codes), []int{1, 2, -1, -2, 7, -7})
		fillCapacity(impl.PlayKeys(events))
		fillCapacity(impl.KeysOf(codes))
		wantCells(t, "the events after the calls", events[:8], []int{1, 2, -1, -2, 7, -7, 0, 0})
		wantCells(t, "the codes after the calls", codes[:4], []int{3, 64, 0, 0})
	}
}
