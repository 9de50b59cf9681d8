package tests

import (
	"fmt"
	"slices"
	"strings"
	"testing"

	"loop.example/braille/impl"
)

func TestValidPatterns(t *testing.T) {
	for _, list := range patternLists() {
		if !impl.ValidPatterns(list) {
			t.Errorf("ValidPatterns(%v) is false", list)
		}
	}
	for _, list := range noPatternLists() {
		if impl.ValidPatterns(list) {
			t.Errorf("ValidPatterns(%v) is true", list)
		}
	}
}

func TestValidPatternsAtTheLimits(t *testing.T) {
	for letters := 0; letters <= 9; letters++ {
		for levels := 0; levels <= 10; levels++ {
			list := []impl.Pattern{pattern(smallLetters[:letters], filled(levels, 5)...)}
			if want := letters >= 1 && letters <= 6 && levels == letters+1; impl.ValidPatterns(list) != want {
				t.Errorf("ValidPatterns of %d letters and %d levels is not %t", letters, levels, want)
			}
		}
	}
	for level := -3; level <= 13; level++ {
		want := level >= 0 && level <= 9
		for _, levels := range [][]int{{level, 1, 1}, {1, level, 1}, {1, 1, level}} {
			if impl.ValidPatterns([]impl.Pattern{pattern("at", levels...)}) != want {
				t.Errorf("ValidPatterns of the levels %v is not %t", levels, want)
			}
		}
	}
	// Patterns may be equal, unlike rules.
	for many := 0; many <= 15; many++ {
		list := slices.Repeat([]impl.Pattern{pattern("a", 1, 1)}, many)
		if impl.ValidPatterns(list) != (many <= 12) {
			t.Errorf("ValidPatterns of %d patterns is not %t", many, many <= 12)
		}
	}
}

func TestValidPatternsOfLetters(t *testing.T) {
	for c := 0; c < 256; c++ {
		s := string([]byte{byte(c)})
		want := strings.Contains(smallLetters, s)
		for _, text := range []string{s, "a" + s, s + "a", "aaaaa" + s} {
			list := []impl.Pattern{{Text: text, Levels: filled(len(text)+1, 1)}}
			if impl.ValidPatterns(list) != want {
				t.Errorf("ValidPatterns of %q is not %t", text, want)
			}
		}
	}
}

func TestP59PatternsCanBeLeftOut(t *testing.T) {
	for _, list := range patternLists() {
		for i := range list {
			if !impl.ValidPatterns(withoutPattern(list, i)) {
				t.Errorf("ValidPatterns(%v) without the pattern %d is false", list, i)
			}
		}
	}
}

// dividedWords are words with their levels, and their parts with hyphens
// between them.
var dividedWords = []struct {
	list   []impl.Pattern
	levels []int
	parts  string
}{
	{englishPatterns(), []int{0, 0, 3, 0, 0, 0, 2, 4, 0, 0, 0, 0}, "hy-phenation"},
	{withoutPattern(englishPatterns(), 8), []int{0, 0, 3, 0, 0, 0, 2, 1, 0, 0, 0, 0}, "hy-phena-tion"},
	{nil, filled(12, 0), "hyphenation"},
	// The greatest level counts, wherever its pattern is in the list.
	{[]impl.Pattern{pattern("abcd", 1, 1, 1, 1, 1), pattern("bc", 2, 2, 2)}, []int{1, 2, 2, 2, 1}, "abcd"},
	{[]impl.Pattern{pattern("bc", 2, 2, 2), pattern("abcd", 1, 1, 1, 1, 1)}, []int{1, 2, 2, 2, 1}, "abcd"},
	{[]impl.Pattern{pattern("bc", 2, 3, 2), pattern("abcd", 1, 1, 1, 1, 1)}, []int{1, 2, 3, 2, 1}, "ab-cd"},
	{[]impl.Pattern{pattern("abcd", 0, 0, 9, 0, 0), pattern("bc", 8, 8, 8)}, []int{0, 8, 9, 8, 0}, "ab-cd"},
	// A pattern is in a word more than once, and overlaps itself.
	{[]impl.Pattern{pattern("aa", 1, 2, 3)}, []int{1, 2, 3, 3, 3, 3}, "aa-a-aa"},
	{[]impl.Pattern{pattern("aba", 3, 2, 1, 0)}, []int{3, 2, 3, 2, 1, 0}, "ab-aba"},
	{[]impl.Pattern{pattern("ab", 1, 0, 0)}, []int{1, 0, 1, 0, 1, 0, 0}, "ab-ab-ab"},
	// A pattern is at an end of a word alone, or at both.
	{[]impl.Pattern{pattern(".ab", 1, 2, 3)}, []int{1, 2, 3, 0, 0}, "ab-ab"},
	{[]impl.Pattern{pattern("ab.", 1, 2, 3)}, []int{0, 0, 1, 2, 3}, "ab-ab"},
	{[]impl.Pattern{pattern(".ab.", 1, 1, 1)}, filled(5, 0), "abab"},
	{[]impl.Pattern{pattern(".abab.", 1, 1, 1, 1, 1)}, filled(5, 1), "ab-ab"},
	{[]impl.Pattern{pattern(".ab.", 3, 4, 5)}, []int{3, 4, 5}, "ab"},
	{[]impl.Pattern{pattern(".ab", 3, 4, 5)}, []int{3, 4, 5}, "ab"},
	{[]impl.Pattern{pattern("ab.", 3, 4, 5)}, []int{3, 4, 5}, "ab"},
	{[]impl.Pattern{pattern(".abc", 9, 9, 9, 9), pattern("cab.", 9, 9, 9, 9)}, filled(3, 0), "ab"},
	{[]impl.Pattern{pattern("aaaaaa", 1, 1, 1, 1, 1, 1, 1)}, filled(6, 0), "aaaaa"},
	{[]impl.Pattern{pattern(".aaaaaa", 0, 0, 0, 0, 0, 0, 7)}, []int{0, 0, 0, 0, 0, 0, 7, 0, 0}, "aaaaaa-aa"},
	// Odd levels too near to the ends of a word do not divide it.
	{oneLevel(1), []int{1, 1}, "a"},
	{oneLevel(1), []int{1, 1, 1}, "ab"},
	{oneLevel(1), []int{1, 1, 1, 1}, "abc"},
	{oneLevel(1), filled(5, 1), "ab-ca"},
	{oneLevel(9), filled(6, 9), "ab-c-ab"},
	{oneLevel(8), filled(6, 8), "abcab"},
	{oneLevel(7), filled(17, 7), "ab-c-a-b-c-a-b-c-a-b-c-a-b-ca"},
}

func TestDividedWords(t *testing.T) {
	for _, c := range dividedWords {
		word := strings.ReplaceAll(c.parts, "-", "")
		call := fmt.Sprintf("(%v, %q)", c.list, word)
		parts := strings.Split(c.parts, "-")
		var points []int
		for i := 1; i < len(parts); i++ {
			points = append(points, len(strings.Join(parts[:i], "")))
		}
		wantCells(t, "HyphenLevels"+call, impl.HyphenLevels(c.list, word), c.levels)
		wantCells(t, "HyphenPoints"+call, impl.HyphenPoints(c.list, word), points)
		wantWords(t, "DivideWord"+call, impl.DivideWord(c.list, word), parts)
	}
}

func TestHyphenLevelsOfAllKinds(t *testing.T) {
	eachDivision(func(list []impl.Pattern, word string) {
		wantCells(t, fmt.Sprintf("HyphenLevels(%v, %q)", list, word), impl.HyphenLevels(list, word), levelsFound(list, word))
	})
}

func TestLevelsAtOnePlace(t *testing.T) {
	for letters := 1; letters <= 16; letters++ {
		word := strings.Repeat("b", letters)
		for at := 0; at < letters; at++ {
			word := word[:at] + "a" + word[at+1:]
			for level := 0; level <= 9; level++ {
				levels := filled(letters+1, 0)
				levels[at] = level
				var points []int
				if level%2 == 1 && at >= 2 && at <= letters-2 {
					points = []int{at}
				}
				list := []impl.Pattern{pattern("a", level, 0)}
				wantCells(t, fmt.Sprintf("HyphenLevels(%v, %q)", list, word), impl.HyphenLevels(list, word), levels)
				wantCells(t, fmt.Sprintf("HyphenPoints(%v, %q)", list, word), impl.HyphenPoints(list, word), points)
			}
		}
	}
}

func TestOtherWordsAndPatternsHaveNoHyphens(t *testing.T) {
	check := func(list []impl.Pattern, word string) {
		levels, points, parts := impl.HyphenLevels(list, word), impl.HyphenPoints(list, word), impl.DivideWord(list, word)
		if len(levels) > 0 || len(points) > 0 || len(parts) > 0 {
			t.Errorf("HyphenLevels, HyphenPoints and DivideWord(%v, %q) = %v, %v, %q", list, word, levels, points, parts)
		}
	}
	for _, word := range noWords {
		for _, list := range [][]impl.Pattern{nil, englishPatterns(), oneLevel(1)} {
			check(list, word)
		}
	}
	for _, list := range noPatternLists() {
		for _, word := range []string{"a", "atatat", "hyphenation", "abcdefgh", longestWord} {
			check(list, word)
		}
	}
}

func TestP60PatternsHaveNoOrder(t *testing.T) {
	eachDivision(func(list []impl.Pattern, word string) {
		levels := impl.HyphenLevels(list, word)
		back := slices.Clone(list)
		slices.Reverse(back)
		wantCells(t, fmt.Sprintf("HyphenLevels(%v, %q)", back, word), impl.HyphenLevels(back, word), levels)
		if len(levels) != len(word)+1 {
			t.Errorf("HyphenLevels(%v, %q) = %v", list, word, levels)
		}
	})
}

func TestP61MorePatternsRaiseLevels(t *testing.T) {
	raised := 0
	eachDivision(func(list []impl.Pattern, word string) {
		levels := impl.HyphenLevels(list, word)
		for i := range list {
			fewer := impl.HyphenLevels(withoutPattern(list, i), word)
			for place := range levels {
				if fewer[place] > levels[place] {
					t.Errorf("HyphenLevels(%v, %q) = %v, and without the pattern %d %v", list, word, levels, i, fewer)
				}
				if fewer[place] < levels[place] {
					raised++
				}
			}
		}
		wantCells(t, fmt.Sprintf("HyphenLevels of %q without patterns", word), impl.HyphenLevels(nil, word), filled(len(word)+1, 0))
	})
	if raised < 1000 {
		t.Errorf("only %d levels are raised", raised)
	}
}

func TestP62WordsAreDividedAtOddLevels(t *testing.T) {
	divided := 0
	eachDivision(func(list []impl.Pattern, word string) {
		levels, points := impl.HyphenLevels(list, word), impl.HyphenPoints(list, word)
		call := fmt.Sprintf("HyphenPoints(%v, %q) = %v", list, word, points)
		for place, level := range levels {
			odd := level == 1 || level == 3 || level == 5 || level == 7 || level == 9
			inside := len(word[:place]) >= 2 && len(word[place:]) >= 2
			if slices.Contains(points, place) != (odd && inside) {
				t.Errorf("%s, and the levels are %v", call, levels)
			}
		}
		for i, point := range points {
			if i > 0 && point <= points[i-1] || point > len(word) {
				t.Error(call)
			}
		}
		divided += len(points)
	})
	if divided < 1000 {
		t.Errorf("words are divided at only %d places", divided)
	}
}

func TestP63PartsMakeUpWords(t *testing.T) {
	eachDivision(func(list []impl.Pattern, word string) {
		parts, points := impl.DivideWord(list, word), impl.HyphenPoints(list, word)
		call := fmt.Sprintf("DivideWord(%v, %q) = %q", list, word, parts)
		if strings.Join(parts, "") != word || len(parts) != len(points)+1 {
			t.Errorf("%s, and HyphenPoints are %v", call, points)
		}
		for i := range points {
			if i < len(parts) && len(strings.Join(parts[:i+1], "")) != points[i] {
				t.Errorf("%s, and HyphenPoints are %v", call, points)
			}
		}
	})
}

func TestP189WordsWithoutPatternsAreWhole(t *testing.T) {
	for _, word := range hyphenWords() {
		for _, list := range [][]impl.Pattern{nil, {}} {
			wantCells(t, fmt.Sprintf("HyphenPoints of %q", word), impl.HyphenPoints(list, word), nil)
			wantWords(t, fmt.Sprintf("DivideWord of %q", word), impl.DivideWord(list, word), []string{word})
		}
	}
}

func TestHyphensAreNewMemory(t *testing.T) {
	// The levels of all patterns stand in one list.
	all := []int{0, 0, 3, 1, 0, 0, 0, 0}
	list := []impl.Pattern{pattern("hy", all[0:3]...), pattern("tion", all[3:8]...)}
	before := fmt.Sprint(list)
	impl.ValidPatterns(list)
	levels, points, parts := impl.HyphenLevels(list, "hyphenation"), impl.HyphenPoints(list, "hyphenation"), impl.DivideWord(list, "hyphenation")
	for _, result := range [][]int{levels, points} {
		fillCapacity(result)
	}
	parts[0] = "x"
	if fmt.Sprint(list) != before {
		t.Errorf("the patterns after the calls = %v", list)
	}
	wantCells(t, "HyphenLevels after a change of its result", impl.HyphenLevels(list, "hyphenation"), []int{0, 0, 3, 0, 0, 0, 0, 1, 0, 0, 0, 0})
	wantCells(t, "HyphenPoints after a change of its result", impl.HyphenPoints(list, "hyphenation"), []int{2, 7})
	wantWords(t, "DivideWord after a change of its result", impl.DivideWord(list, "hyphenation"), []string{"hy", "phena", "tion"})
}
