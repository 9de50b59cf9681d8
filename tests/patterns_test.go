package tests

import (
	"strings"

	"loop.example/braille/impl"
)

// pattern returns a pattern for the letters of a text, which has a full stop
// before them if they must begin a word, and one behind them if they must end
// it.
func pattern(text string, levels ...int) impl.Pattern {
	return impl.Pattern{Text: strings.Trim(text, "."), Begin: strings.HasPrefix(text, "."), End: strings.HasSuffix(text, "."), Levels: levels}
}

// englishPatterns returns patterns for English words.
func englishPatterns() []impl.Pattern {
	return []impl.Pattern{
		pattern("hy", 0, 0, 3), pattern("phen", 0, 0, 0, 0, 1), pattern("na", 0, 2, 0), pattern("tion.", 1, 0, 0, 0, 0),
		pattern(".at", 5, 5, 5), pattern("hy.", 7, 7, 7), pattern(".the.", 9, 9, 9, 9), pattern("gr", 0, 1, 0), pattern("a", 1, 4),
	}
}

// oneLevel returns patterns by which each place has the same level.
func oneLevel(level int) []impl.Pattern {
	return []impl.Pattern{pattern("a", level, level), pattern("b", level, level), pattern("c", level, level)}
}

// allEnds returns patterns for the same letters, with and without the ends of
// the word.
func allEnds() []impl.Pattern {
	return []impl.Pattern{pattern(".ab.", 9, 9, 9), pattern(".ab", 1, 2, 3), pattern("ab.", 5, 6, 1), pattern("ab", 2, 1, 0), pattern("ab", 0, 3, 0)}
}

// fullPatterns returns as many patterns as there can be, all of the greatest
// length and with the greatest levels.
func fullPatterns() []impl.Pattern {
	var list []impl.Pattern
	for i := 0; i < impl.MaxPatterns; i++ {
		list = append(list, pattern("aaaaa"+smallLetters[i:i+1], filled(7, 9)...))
	}
	return list
}

// randomPatterns returns valid patterns of few letters.
func randomPatterns(seq *sequence) []impl.Pattern {
	var list []impl.Pattern
	for many := seq.next(impl.MaxPatterns + 1); many > 0; many-- {
		text := ""
		for letters := 1 + seq.next(1+seq.next(impl.MaxPart)); len(text) < letters; {
			i := seq.next(3)
			text += smallLetters[i : i+1]
		}
		p := pattern(text)
		p.Begin, p.End = seq.next(3) == 0, seq.next(3) == 0
		for i := 0; i <= len(text); i++ {
			p.Levels = append(p.Levels, seq.next(10))
		}
		list = append(list, p)
	}
	return list
}

// patternLists returns valid lists of patterns.
func patternLists() [][]impl.Pattern {
	all := [][]impl.Pattern{nil, {}, englishPatterns(), oneLevel(0), oneLevel(1), oneLevel(8), oneLevel(9), allEnds(), fullPatterns()}
	seq := sequence{21}
	for i := 0; i < 80; i++ {
		all = append(all, randomPatterns(&seq))
	}
	return all
}

// noPatternLists returns lists of patterns that are not valid, each for one
// reason alone.
func noPatternLists() [][]impl.Pattern {
	first := pattern("at", 1, 2, 3)
	lists := [][]impl.Pattern{
		{pattern("", 1)}, {pattern("")}, {first, pattern("", 1)},
		{pattern("abcdefg", 1, 1, 1, 1, 1, 1, 1, 1)}, {pattern(strings.Repeat("a", 100000), filled(100001, 1)...)},
		{pattern("a")}, {pattern("a", 1)}, {pattern("a", 1, 1, 1)}, {first, pattern("abc", 1, 1, 1)}, {pattern("abc", 1, 1, 1, 1, 1), first}, {pattern("abcdef", 1, 1, 1, 1, 1, 1)}, {pattern("a", filled(100000, 1)...)},
		append(fullPatterns(), first), append([]impl.Pattern{first}, fullPatterns()...), append(fullPatterns(), fullPatterns()...),
	}
	for _, level := range []int{-1, 10, 11, -9, 1 << 32, -1 << 63, 1<<63 - 1} {
		lists = append(lists, []impl.Pattern{pattern("at", level, 0, 0)}, []impl.Pattern{first, pattern("at", 0, level, 0)}, []impl.Pattern{pattern("at", 0, 0, level), first})
	}
	for _, text := range []string{"A", "aB", "Ab", "a b", "a-", "1", "a1", "é", "\x00", "a`", "a{", "'s"} {
		lists = append(lists, []impl.Pattern{first, {Text: text, Levels: filled(len(text)+1, 1)}})
	}
	return lists
}

// withoutPattern returns the list without one of its patterns, in new memory.
func withoutPattern(list []impl.Pattern, i int) []impl.Pattern {
	return append(append([]impl.Pattern{}, list[:i]...), list[i+1:]...)
}

// hyphenWords returns words that the patterns are in.
func hyphenWords() []string {
	return append(words(), "hyphenation", "hy", "hyhy", "at", "atat", "nation", "tion", "ation", "graph", "a", "aaaaab", longestWord)
}

// eachDivision calls a function for all lists of patterns with all words.
func eachDivision(f func(list []impl.Pattern, word string)) {
	all := hyphenWords()
	for _, list := range patternLists() {
		for _, word := range all {
			f(list, word)
		}
	}
}

// levelsFound returns the levels of the places of a word, found in the word
// with a full stop at each end.
func levelsFound(list []impl.Pattern, word string) []int {
	levels := make([]int, len(word)+1)
	ended := "." + word + "."
	for _, p := range list {
		text, before := p.Text, 0
		if p.Begin {
			text, before = "."+text, 1
		}
		if p.End {
			text += "."
		}
		for at := range ended {
			if !strings.HasPrefix(ended[at:], text) {
				continue
			}
			for i, level := range p.Levels {
				place := at + before - 1 + i
				levels[place] = max(levels[place], level)
			}
		}
	}
	return levels
}
