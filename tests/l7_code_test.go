package tests

import (
	"fmt"
	"slices"
	"testing"

	"loop.example/braille/impl"
)

func TestCodesOfAllKinds(t *testing.T) {
	free, unique, others := 0, 0, 0
	for _, code := range codes() {
		switch {
		case impl.IsPrefixFree(code):
			free++
		case impl.IsUnique(code):
			unique++
		default:
			others++
		}
	}
	if free < 50 || unique < 50 || others < 50 {
		t.Errorf("%d codes have no prefixes, %d others are unique, and %d are not", free, unique, others)
	}
}

func TestValidCode(t *testing.T) {
	for _, code := range codes() {
		if !impl.ValidCode(code) {
			t.Errorf("ValidCode(%v) is false", code)
		}
	}
	for _, code := range noCodes() {
		if impl.ValidCode(code) {
			t.Errorf("ValidCode(%v) is true", code)
		}
	}
	for cell := -3; cell <= 67; cell++ {
		want := cell >= 0 && cell <= 63
		for _, code := range [][][]int{{{cell}}, {{cell, 5}}, {{5, 5, 5, cell}}, {{5, 5}, {5, cell, 7}}} {
			if impl.ValidCode(code) != want {
				t.Errorf("ValidCode(%v) is not %t", code, want)
			}
		}
	}
}

func TestP40CodesCanLoseCodeWords(t *testing.T) {
	for _, code := range codes() {
		for i := range code {
			if !impl.ValidCode(withoutWord(code, i)) {
				t.Errorf("ValidCode(%v) without the code word %d is false", code, i)
			}
		}
	}
}

func TestFactorCount(t *testing.T) {
	code := [][]int{{1, 3}, {3, 1}, {1}}
	for _, c := range []struct {
		code  [][]int
		cells []int
		want  int
	}{
		{code, nil, 1}, {code, []int{}, 1}, {code, []int{1}, 1}, {code, []int{3}, 0}, {code, []int{1, 3}, 1}, {code, []int{3, 1}, 1}, {code, []int{3, 3}, 0},
		{code, []int{1, 3, 1}, 2}, {code, []int{1, 3, 1, 3, 1}, 3}, {code, []int{1, 3, 1, 1, 3, 1}, 4}, {code, []int{1, 3, 1, 9}, 0}, {code, []int{9, 1, 3, 1}, 0},
		{nil, nil, 1}, {nil, []int{0}, 0}, {[][]int{{0}}, nil, 1}, {[][]int{{0}}, []int{0, 0, 0}, 1}, {[][]int{{0, 0}}, []int{0, 0, 0}, 0}, {[][]int{{0, 0}, {0}}, []int{0, 0, 0}, 3},
		{[][]int{{63, 63, 63, 63}}, filled(24, 63), 1}, {[][]int{{63, 63, 63, 63}}, filled(23, 63), 0},
	} {
		if got := impl.FactorCount(c.code, c.cells); got != c.want {
			t.Errorf("FactorCount(%v, %v) = %d, want %d", c.code, c.cells, got, c.want)
		}
	}
}

func TestFactorCountOfAllShortLists(t *testing.T) {
	for _, code := range codes() {
		for _, cells := range allLists([]int{0, 1, 62, 63}, 4) {
			if got, want := impl.FactorCount(code, cells), waysToRead(code, cells); got != want {
				t.Errorf("FactorCount(%v, %v) = %d, want %d", code, cells, got, want)
			}
		}
	}
	for _, code := range allCodes() {
		for _, cells := range allLists([]int{0, 1}, 7) {
			if got, want := impl.FactorCount(code, cells), waysToRead(code, cells); got != want {
				t.Errorf("FactorCount(%v, %v) = %d, want %d", code, cells, got, want)
			}
		}
	}
}

func TestFactorCountAtTheLimit(t *testing.T) {
	code := [][]int{{1}, {1, 1}, {1, 1, 1}, {1, 1, 1, 1}}
	for many, want := range map[int]int{0: 1, 1: 1, 2: 2, 3: 4, 4: 8, 5: 15, 6: 29, 12: 1490, 23: 2033628, 24: 3919944, 25: -1, 26: -1, 200: -1, 201: -1, 100000: -1} {
		if got := impl.FactorCount(code, filled(many, 1)); got != want {
			t.Errorf("FactorCount of %d cells = %d, want %d", many, got, want)
		}
	}
	for many, want := range map[int]int{1: 0, 24: 0, 25: -1} {
		if got := impl.FactorCount(nil, filled(many, 1)); got != want {
			t.Errorf("FactorCount of %d cells by no code words = %d, want %d", many, got, want)
		}
	}
}

func TestFactorCountOfOtherArguments(t *testing.T) {
	for _, code := range noCodes() {
		for _, cells := range [][]int{nil, {1}, {3, 1}} {
			if got := impl.FactorCount(code, cells); got != -1 {
				t.Errorf("FactorCount(%v, %v) = %d", code, cells, got)
			}
		}
	}
	for _, n := range noCells {
		for _, cells := range [][]int{{n}, {1, n}, {n, 1}, append(filled(23, 1), n)} {
			for _, code := range [][][]int{nil, {{1}}, {{3}}} {
				if got := impl.FactorCount(code, cells); got != -1 {
					t.Errorf("FactorCount(%v, %v) = %d", code, cells, got)
				}
			}
		}
	}
}

func TestP41CodeWordsAreCodeWords(t *testing.T) {
	seq := sequence{10}
	for _, code := range codes() {
		lists := [][]int{nil, {1}, {63, 62}}
		for _, word := range code {
			if impl.FactorCount(code, word) < 1 {
				t.Errorf("FactorCount(%v, %v) = %d", code, word, impl.FactorCount(code, word))
			}
			lists = append(lists, word, joined(word, code[seq.next(len(code))], code[seq.next(len(code))]))
		}
		for _, one := range lists {
			for _, other := range lists {
				least := impl.FactorCount(code, one) * impl.FactorCount(code, other)
				if got := impl.FactorCount(code, joined(one, other)); got < least {
					t.Errorf("FactorCount(%v, %v and %v) = %d, want at least %d", code, one, other, got, least)
				}
			}
		}
	}
}

func TestP42WaysBeginWithACodeWord(t *testing.T) {
	for i, code := range codes() {
		lists := allLists([]int{0, 1, 62, 63}, 3)[1:]
		seq := sequence{uint64(i)}
		for n := 0; n < 10 && len(code) > 0; n++ {
			var list []int
			for len(list) <= 20 {
				list = append(list, code[seq.next(len(code))]...)
			}
			lists = append(lists, list)
		}
		for _, cells := range lists {
			sum := 0
			for _, word := range code {
				if len(word) <= len(cells) && equal(word, cells[:len(word)]) {
					sum += impl.FactorCount(code, cells[len(word):])
				}
			}
			if got := impl.FactorCount(code, cells); got != sum {
				t.Errorf("FactorCount(%v, %v) = %d, want %d", code, cells, got, sum)
			}
		}
	}
}

func TestIsUnique(t *testing.T) {
	for _, c := range knownCodes {
		if impl.IsUnique(c.code) != c.unique || impl.IsPrefixFree(c.code) != c.free || impl.LongestRest(c.code) != c.rest {
			t.Errorf("IsUnique, IsPrefixFree and LongestRest of %v are %t, %t and %d, want %t, %t and %d", c.code, impl.IsUnique(c.code), impl.IsPrefixFree(c.code), impl.LongestRest(c.code), c.unique, c.free, c.rest)
		}
	}
}

func TestIsUniqueAsReadTwice(t *testing.T) {
	for _, code := range codes() {
		unique, longest := readTwice(code)
		if impl.IsUnique(code) != unique || impl.LongestRest(code) != longest {
			t.Errorf("IsUnique and LongestRest of %v are %t and %d, want %t and %d", code, impl.IsUnique(code), impl.LongestRest(code), unique, longest)
		}
	}
}

func TestIsPrefixFree(t *testing.T) {
	for _, code := range codes() {
		want := true
		for i, word := range code {
			for j, other := range code {
				if i != j && len(word) <= len(other) && equal(word, other[:len(word)]) {
					want = false
				}
			}
		}
		if impl.IsPrefixFree(code) != want {
			t.Errorf("IsPrefixFree(%v) is not %t", code, want)
		}
	}
}

func TestOtherCodes(t *testing.T) {
	for _, code := range noCodes() {
		if impl.IsUnique(code) || impl.IsPrefixFree(code) || impl.LongestRest(code) != -1 {
			t.Errorf("IsUnique, IsPrefixFree and LongestRest of %v are %t, %t and %d", code, impl.IsUnique(code), impl.IsPrefixFree(code), impl.LongestRest(code))
		}
	}
}

func TestP43UniqueCodesAreReadInOneWay(t *testing.T) {
	for _, code := range uniqueCodes() {
		for _, one := range code {
			for _, two := range code {
				if got := impl.FactorCount(code, joined(one, two)); got != 1 {
					t.Errorf("FactorCount(%v, %v and %v) = %d", code, one, two, got)
				}
				for _, three := range code {
					if got := impl.FactorCount(code, joined(one, two, three)); got != 1 {
						t.Errorf("FactorCount(%v, %v, %v and %v) = %d", code, one, two, three, got)
					}
				}
			}
		}
	}
}

func TestP44UniqueCodesAreUniqueBackwards(t *testing.T) {
	for _, code := range codes() {
		var back [][]int
		for _, word := range code {
			back = append(back, reversed(word))
		}
		if impl.IsUnique(back) != impl.IsUnique(code) {
			t.Errorf("IsUnique(%v) is %t, and backwards %t", code, impl.IsUnique(code), impl.IsUnique(back))
		}
	}
}

func TestP45PartsOfUniqueCodesAreUnique(t *testing.T) {
	for _, code := range uniqueCodes() {
		for i := range code {
			if !impl.IsUnique(withoutWord(code, i)) {
				t.Errorf("IsUnique(%v) without the code word %d is false", code, i)
			}
		}
	}
}

func TestP46CellsThatAreReadInTwoWaysBetrayACode(t *testing.T) {
	betrayed := 0
	seq := sequence{11}
	for _, code := range codes() {
		lists := allLists([]int{62, 63}, 6)
		for n := 0; n < 30 && len(code) > 0; n++ {
			var list []int
			for len(list) <= 20 {
				list = append(list, code[seq.next(len(code))]...)
			}
			lists = append(lists, list)
		}
		for _, cells := range lists {
			if impl.FactorCount(code, cells) > 1 {
				betrayed++
				if impl.IsUnique(code) {
					t.Errorf("IsUnique(%v) is true, and FactorCount of %v is %d", code, cells, impl.FactorCount(code, cells))
				}
			}
		}
	}
	if betrayed < 1000 {
		t.Errorf("only %d lists are read in two ways", betrayed)
	}
}

func TestP47CodesWithoutPrefixesAreUnique(t *testing.T) {
	for _, code := range codes() {
		if impl.IsPrefixFree(code) && (!impl.IsUnique(code) || impl.LongestRest(code) != 0) {
			t.Errorf("IsUnique and LongestRest of %v are %t and %d", code, impl.IsUnique(code), impl.LongestRest(code))
		}
	}
}

func TestP48RestsArePartsOfCodeWords(t *testing.T) {
	for _, code := range codes() {
		rest := impl.LongestRest(code)
		if (rest == 0) != impl.IsPrefixFree(code) || (rest == -1) == impl.IsUnique(code) || rest < -1 {
			t.Errorf("LongestRest(%v) = %d", code, rest)
		}
		longest := 0
		for _, word := range code {
			longest = max(longest, len(word))
		}
		if len(code) > 0 && rest >= longest || len(code) == 0 && rest != 0 {
			t.Errorf("LongestRest(%v) = %d", code, rest)
		}
	}
}

func TestP187CodesWithoutPrefixesAreReadInOneWay(t *testing.T) {
	seq := sequence{12}
	for _, code := range codes() {
		if !impl.IsPrefixFree(code) {
			continue
		}
		for _, cells := range allLists([]int{0, 1, 62, 63}, 4) {
			if impl.FactorCount(code, cells) > 1 {
				t.Errorf("FactorCount(%v, %v) = %d", code, cells, impl.FactorCount(code, cells))
			}
		}
		for n := 0; n < 20 && len(code) > 0; n++ {
			var list []int
			for len(list) <= 20 {
				list = append(list, code[seq.next(len(code))]...)
			}
			if impl.FactorCount(code, list) != 1 {
				t.Errorf("FactorCount(%v, %v) = %d", code, list, impl.FactorCount(code, list))
			}
		}
	}
}

func TestP188CodeWordsOfTheSameLengthAreToldApart(t *testing.T) {
	for _, code := range codes() {
		for _, words := range byLength(code) {
			if !impl.IsPrefixFree(words) || !impl.IsUnique(words) {
				t.Errorf("IsPrefixFree and IsUnique of %v are %t and %t", words, impl.IsPrefixFree(words), impl.IsUnique(words))
			}
		}
	}
}

func TestCodesHaveNoOrder(t *testing.T) {
	for _, code := range codes() {
		back := slices.Clone(code)
		slices.Reverse(back)
		if impl.IsUnique(back) != impl.IsUnique(code) || impl.IsPrefixFree(back) != impl.IsPrefixFree(code) || impl.LongestRest(back) != impl.LongestRest(code) {
			t.Errorf("IsUnique, IsPrefixFree or LongestRest of %v is not the same in reverse order", code)
		}
	}
}

func TestCodesAreNotChanged(t *testing.T) {
	code, cells := [][]int{{1, 3}, {1, 3, 3, 3}, {3, 3, 1}}, []int{1, 3, 3, 3, 1}
	// The code words stand in one list, so that whatever is appended to one of
	// them would change the next one.
	all := joined(code...)
	tight := [][]int{all[0:2], all[2:6], all[6:9]}
	impl.ValidCode(tight)
	impl.FactorCount(tight, cells)
	impl.IsUnique(tight)
	impl.IsPrefixFree(tight)
	impl.LongestRest(tight)
	if fmt.Sprint(tight) != fmt.Sprint(code) || !equal(cells, []int{1, 3, 3, 3, 1}) {
		t.Errorf("the arguments after the calls = %v, %v", tight, cells)
	}
}
