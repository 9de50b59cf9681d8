package tests

import (
	"strings"
	"testing"

	"loop.example/braille/impl"
)

// smallLetters, capitalLetters, digits and marks are all characters of a valid
// text but the space.
const (
	smallLetters   = "abcdefghijklmnopqrstuvwxyz"
	capitalLetters = "ABCDEFGHIJKLMNOPQRSTUVWXYZ"
	digits         = "0123456789"
	marks          = ".,;:!?'-"
)

// characters are all characters of a valid text.
const characters = smallLetters + capitalLetters + digits + marks + " "

// noCells are numbers that are no cells: next to the limits, and far away.
var noCells = []int{-1, 64, 65, -64, 1 << 32, -1 << 63, 1<<63 - 1}

// noCharacters are characters that no valid text has: those next to the valid
// ones in their order, and others.
const noCharacters = "@[`{/\"#&(*+<=>_~\x00\t\n\r\x7f\x80\xe9\xff"

// equal reports whether two lists have the same numbers.
func equal(a, b []int) bool {
	if len(a) != len(b) {
		return false
	}
	for i := range a {
		if a[i] != b[i] {
			return false
		}
	}
	return true
}

// joined returns the lists one after the other, in new memory.
func joined(lists ...[]int) []int {
	var all []int
	for _, list := range lists {
		all = append(all, list...)
	}
	return all
}

// reversed returns the list in reverse order.
func reversed(list []int) []int {
	var back []int
	for i := len(list) - 1; i >= 0; i-- {
		back = append(back, list[i])
	}
	return back
}

// count returns how often a number is in a list.
func count(list []int, n int) int {
	many := 0
	for _, m := range list {
		if m == n {
			many++
		}
	}
	return many
}

// filled returns a list of many numbers that are all the same.
func filled(many, n int) []int {
	list := make([]int, many)
	for i := range list {
		list[i] = n
	}
	return list
}

// sequence makes numbers that look random, but are the same in each run.
type sequence struct{ state uint64 }

// next returns a number in 0..below-1.
func (s *sequence) next(below int) int {
	s.state = s.state*6364136223846793005 + 1442695040888963407
	return int(s.state>>33) % below
}

// cellLists returns valid lists of cells: the short ones that matter, the
// longest one, and many others.
func cellLists() [][]int {
	lists := [][]int{nil, {0}, {63}, {0, 0}, {1, 3, 0, 57}, filled(impl.MaxCells, 63), filled(impl.MaxCells, 0)}
	seq := sequence{1}
	for i := 0; i < 300; i++ {
		list := make([]int, seq.next(impl.MaxCells+1))
		for j := range list {
			list[j] = seq.next(64)
		}
		lists = append(lists, list)
	}
	return lists
}

// dotLists returns all 64 ascending lists of dots in 1..6.
func dotLists() [][]int {
	lists := [][]int{nil}
	for dot := 1; dot <= 6; dot++ {
		for _, list := range lists {
			lists = append(lists, joined(list, []int{dot}))
		}
	}
	return lists
}

// textsOf returns all texts of at most many of some characters.
func textsOf(from string, many int) []string {
	texts := []string{""}
	first := 0
	for n := 0; n < many; n++ {
		last := len(texts)
		for _, text := range texts[first:last] {
			for i := range len(from) {
				texts = append(texts, text+from[i:i+1])
			}
		}
		first = last
	}
	return texts
}

// plainTexts returns valid texts: all short ones of the characters that matter
// to each other, the longest ones, and many others.
func plainTexts() []string {
	texts := textsOf("ajkzABZ09.- ", 4)
	texts = append(texts, textsOf(characters, 2)...)
	for _, part := range []string{"a", "A", "1", " ", ".", "1a", "Ab", "A ", "1A"} {
		texts = append(texts, strings.Repeat(part, impl.MaxText/len(part)))
	}
	seq := sequence{2}
	for i := 0; i < 2000; i++ {
		from := characters
		if i%2 == 0 {
			from = "abjkAB12 ."
		}
		text := make([]byte, seq.next(impl.MaxText+1))
		for j := range text {
			text[j] = from[seq.next(len(from))]
		}
		texts = append(texts, string(text))
	}
	return texts
}

// capitals reports whether a text has a capital letter.
func capitals(s string) bool {
	return strings.ContainsAny(s, capitalLetters)
}

// wantCells fails the test if a list is not as it must be.
func wantCells(t *testing.T, call string, got, want []int) {
	t.Helper()
	if !equal(got, want) {
		t.Errorf("%s = %v, want %v", call, got, want)
	}
}
