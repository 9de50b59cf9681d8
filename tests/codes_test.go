package tests

import (
	"sort"

	"loop.example/braille/impl"
)

// knownCodes are valid codes with what is to be said of them.
var knownCodes = []struct {
	code   [][]int
	unique bool
	free   bool
	rest   int
}{
	{nil, true, true, 0},
	{[][]int{}, true, true, 0},
	{[][]int{{0}}, true, true, 0},
	{[][]int{{63, 63, 63, 63}}, true, true, 0},
	{[][]int{{1}, {3}}, true, true, 0},
	{[][]int{{1}, {3, 1}, {3, 3}}, true, true, 0},
	// A code word begins with another one, which is itself code words or not.
	{[][]int{{1}, {1, 1}}, false, false, -1},
	{[][]int{{1, 1}, {1}}, false, false, -1},
	{[][]int{{1, 1}, {1, 1, 1}}, false, false, -1},
	{[][]int{{1}, {1, 3}}, true, false, 1},
	{[][]int{{1, 3}, {1}}, true, false, 1},
	{[][]int{{1}, {1, 3, 3}}, true, false, 2},
	{[][]int{{1}, {1, 3, 3, 3}}, true, false, 3},
	{[][]int{{1}, {1, 3}, {1, 3, 3}, {1, 3, 3, 3}}, true, false, 3},
	{[][]int{{1}, {1, 3}, {3}}, false, false, -1},
	{[][]int{{1, 3}, {3, 1}, {1}}, false, false, -1},
	// A code word ends with another one, but none begins with one.
	{[][]int{{3}, {1, 3}, {1, 1, 3}}, true, true, 0},
	// The greatest rest is behind a rest, and a code word longer than it.
	{[][]int{{1, 3}, {1, 3, 3, 3}, {3, 3, 1}}, true, false, 3},
	{[][]int{{1, 3}, {1, 3, 9, 3}, {9, 3, 1}, {1, 9, 1}, {9, 1, 9}, {9, 3, 1, 9}}, true, false, 3},
	{[][]int{{1}, {1, 3}, {3, 9, 9, 9}}, true, false, 3},
	{[][]int{{1}, {1, 3}, {3, 9}, {9, 27, 27, 27}}, true, false, 3},
	// The greatest rest is the first one, and others are shorter.
	{[][]int{{1}, {1, 3, 3, 9}, {3, 9}, {3, 3}}, true, false, 3},
	// A rest begins with a code word, and what is behind it is a code word.
	{[][]int{{1}, {1, 3, 3, 9}, {3, 3}, {9}}, false, false, -1},
	{[][]int{{1}, {1, 3, 3}, {3}}, false, false, -1},
	// There are two ways only for longer lists.
	{[][]int{{1}, {1, 3}, {3, 9}, {9}}, false, false, -1},
	{[][]int{{1}, {1, 3}, {3, 9}, {9, 27}, {27, 31}, {31}}, false, false, -1},
	{[][]int{{1}, {1, 3}, {3, 9}, {9, 27}, {27, 31}, {31, 1, 1, 1}}, false, false, -1},
	{[][]int{{1}, {1, 3}, {3, 9}, {9, 27}, {27, 31}, {31, 2}}, true, false, 1},
	// Rests lead round in a circle, and never to a code word.
	{[][]int{{1}, {1, 3}, {3, 3}}, true, false, 1},
	{[][]int{{1}, {1, 3, 3}, {3, 3, 3}}, true, false, 2},
	{[][]int{{1}, {1, 3, 3}, {3, 3, 3, 3}}, true, false, 2},
	// There are as many code words as there can be, of the greatest length.
	{fullCode(), true, true, 0},
	{append(fullCode()[:6], []int{9}, []int{9, 1, 1, 0}), true, false, 3},
	{append(fullCode()[:6], []int{1, 1, 1}, []int{0, 1, 1, 1}), false, false, -1},
	{append(fullCode()[:7], []int{1}), false, false, -1},
}

// fullCode returns a code with as many code words as there can be, all of the
// greatest length.
func fullCode() [][]int {
	var code [][]int
	for i := 0; i < impl.MaxCode; i++ {
		code = append(code, []int{1, 1, 1, i})
	}
	return code
}

// allLists returns all lists of at most many of some cells.
func allLists(cells []int, many int) [][]int {
	lists := [][]int{nil}
	for n := 0; n < len(lists); n++ {
		if len(lists[n]) == many {
			break
		}
		for _, cell := range cells {
			lists = append(lists, joined(lists[n], []int{cell}))
		}
	}
	return lists
}

// allCodes returns all codes of code words of at most two of two cells.
func allCodes() [][][]int {
	words := allLists([]int{1, 0}, 2)[1:]
	var codes [][][]int
	for set := 0; set < 1<<len(words); set++ {
		var code [][]int
		for i, word := range words {
			if set>>i&1 == 1 {
				code = append(code, word)
			}
		}
		codes = append(codes, code)
	}
	return codes
}

// randomCode returns a valid code of few cells.
func randomCode(seq *sequence) [][]int {
	different := 2 + seq.next(3)
	var code [][]int
	for many := seq.next(impl.MaxCode + 1); many > 0; many-- {
		word := make([]int, 1+seq.next(impl.MaxCodeWord))
		for i := range word {
			word[i] = 63 - seq.next(different)
		}
		if !hasCodeWord(code, word) {
			code = append(code, word)
		}
	}
	return code
}

// hasCodeWord reports whether a code has a code word.
func hasCodeWord(code [][]int, word []int) bool {
	for _, other := range code {
		if equal(other, word) {
			return true
		}
	}
	return false
}

// codes returns valid codes.
func codes() [][][]int {
	all := allCodes()
	for _, c := range knownCodes {
		all = append(all, c.code)
	}
	seq := sequence{9}
	for i := 0; i < 600; i++ {
		all = append(all, randomCode(&seq))
	}
	return all
}

// uniqueCodes returns the valid codes for which IsUnique is true.
func uniqueCodes() [][][]int {
	var unique [][][]int
	for _, code := range codes() {
		if impl.IsUnique(code) {
			unique = append(unique, code)
		}
	}
	return unique
}

// noCodes returns codes that are not valid, each for one reason alone.
func noCodes() [][][]int {
	codes := [][][]int{
		{{}}, {nil}, {{1}, {}}, {{}, {1}}, {{1}, nil, {3}},
		{{1, 1, 1, 1, 1}}, {{1}, {3, 1, 1, 1, 1}}, {{1, 3, 1, 1, 1}, {9}}, {filled(200, 1)}, {filled(100000, 1)},
		{{1}, {1}}, {{1, 3}, {1, 3}}, {{1}, {3}, {1}}, {{1, 3, 9, 1}, {1}, {3}, {1, 3, 9, 1}},
		append(fullCode(), []int{3}), append([][]int{{3}}, fullCode()...), append(fullCode(), fullCode()...),
	}
	for _, n := range noCells {
		codes = append(codes, [][]int{{n}}, [][]int{{1}, {3, n}}, [][]int{{n, 1}, {3}}, [][]int{{1}, {3, 9, 1, n}})
	}
	return codes
}

// withoutWord returns the code without one of its code words, in new memory.
func withoutWord(code [][]int, i int) [][]int {
	return append(append([][]int{}, code[:i]...), code[i+1:]...)
}

// waysToRead returns in how many ways cells are code words, counted one by one.
func waysToRead(code [][]int, cells []int) int {
	if len(cells) == 0 {
		return 1
	}
	ways := 0
	for _, word := range code {
		if len(word) <= len(cells) && equal(word, cells[:len(word)]) {
			ways += waysToRead(code, cells[len(word):])
		}
	}
	return ways
}

// place is a place in a code word, or, with the offset 0, between two of them.
type place struct{ word, offset int }

// stepsFrom returns the cells that can be read at a place, with the places that
// they lead to.
func stepsFrom(code [][]int, at place) (cells []int, places []place) {
	for i, word := range code {
		if at.offset > 0 && i != at.word {
			continue
		}
		next := place{i, at.offset + 1}
		if next.offset == len(word) {
			next = place{}
		}
		cells = append(cells, word[at.offset])
		places = append(places, next)
	}
	return cells, places
}

// readTwice reads all lists of cells in two ways at the same time, cell by cell,
// that begin with different code words. It reports whether no two ways end
// together, and the greatest number of cells that one way has left where the
// other one is between two code words.
func readTwice(code [][]int) (unique bool, longest int) {
	type pair struct{ one, other place }
	cells, places := stepsFrom(code, place{})
	var pairs []pair
	for i := range cells {
		for j := range cells {
			if i != j && cells[i] == cells[j] {
				pairs = append(pairs, pair{places[i], places[j]})
			}
		}
	}
	seen := map[pair]bool{}
	for n := 0; n < len(pairs); n++ {
		p := pairs[n]
		if seen[p] {
			continue
		}
		seen[p] = true
		if p.one.offset == 0 && p.other.offset == 0 {
			return false, -1
		}
		if p.one.offset == 0 {
			longest = max(longest, len(code[p.other.word])-p.other.offset)
		}
		oneCells, ones := stepsFrom(code, p.one)
		otherCells, others := stepsFrom(code, p.other)
		for i := range ones {
			for j := range others {
				if oneCells[i] == otherCells[j] {
					pairs = append(pairs, pair{ones[i], others[j]})
				}
			}
		}
	}
	return true, longest
}

// byLength returns the code words of a code with each length that there is.
func byLength(code [][]int) [][][]int {
	words := append([][]int{}, code...)
	sort.SliceStable(words, func(i, j int) bool { return len(words[i]) < len(words[j]) })
	var codes [][][]int
	for i, word := range words {
		if i == 0 || len(word) != len(words[i-1]) {
			codes = append(codes, nil)
		}
		codes[len(codes)-1] = append(codes[len(codes)-1], word)
	}
	return codes
}
