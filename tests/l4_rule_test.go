package tests

import (
	"fmt"
	"slices"
	"strings"
	"testing"

	"loop.example/braille/impl"
)

func TestPlaces(t *testing.T) {
	wantCells(t, "the places", places, []int{0, 1, 2, 3, 4})
}

func TestValidTable(t *testing.T) {
	for _, table := range tables() {
		if !impl.ValidTable(table) {
			t.Errorf("ValidTable(%v) is false", table)
		}
	}
	for _, table := range noTables() {
		if impl.ValidTable(table) {
			t.Errorf("ValidTable(%v) is true", table)
		}
	}
}

func TestValidTableOfCells(t *testing.T) {
	forbidden := forbiddenCells()
	if len(forbidden) != 1+len(noCells)+8+3 {
		t.Fatalf("there are %d forbidden cells", len(forbidden))
	}
	for cell := -3; cell <= 67; cell++ {
		want := cell >= 0 && cell < 64 && !slices.Contains(forbidden, cell)
		for _, cells := range [][]int{{cell}, {cell, 46}, {46, cell}, {cell, cell}} {
			if impl.ValidTable([]impl.Rule{rule("st", impl.PlAny, cells...)}) != want {
				t.Errorf("ValidTable of a rule with %v is not %t", cells, want)
			}
		}
	}
}

func TestValidTableOfLetters(t *testing.T) {
	for c := 0; c < 256; c++ {
		s := string([]byte{byte(c)})
		want := strings.Contains(smallLetters, s)
		for _, text := range []string{s, "a" + s, s + "a", "aaaaa" + s} {
			if impl.ValidTable([]impl.Rule{rule(text, impl.PlAny, 46)}) != want {
				t.Errorf("ValidTable of a rule for %q is not %t", text, want)
			}
		}
	}
	if !impl.ValidTable([]impl.Rule{rule("abcdef", impl.PlAny, 46)}) || impl.ValidTable([]impl.Rule{rule("abcdefg", impl.PlAny, 46)}) || impl.ValidTable([]impl.Rule{rule(strings.Repeat("a", 100000), impl.PlAny, 46)}) {
		t.Error("ValidTable does not end at 6 letters")
	}
}

func TestValidTableOfEqualRules(t *testing.T) {
	for _, one := range places {
		for _, other := range places {
			table := []impl.Rule{rule("ab", one, 46), rule("b", one, 46), rule("ab", other, 47)}
			if impl.ValidTable(table) != (one != other) {
				t.Errorf("ValidTable(%v) is %t", table, one == other)
			}
		}
	}
}

func TestP20TablesCanLoseRules(t *testing.T) {
	for _, table := range tables() {
		for i := range table {
			if !impl.ValidTable(without(table, i)) {
				t.Errorf("ValidTable(%v) without the rule %d is false", table, i)
			}
		}
	}
	if len(fullTable()) != 16 || !impl.ValidTable(fullTable()) {
		t.Error("a table with 16 rules is not valid")
	}
}

func TestPlaceFits(t *testing.T) {
	for many := -2; many <= 18; many++ {
		for from := -2; from <= 18; from++ {
			for to := -2; to <= 18; to++ {
				valid := 0 <= from && from < to && to <= many && many <= 16
				for place := -2; place <= 7; place++ {
					want := false
					if valid {
						word := strings.Repeat("a", many)
						want = inPlace(place, word[:from], word[to:])
					}
					if impl.PlaceFits(place, from, to, many) != want {
						t.Errorf("PlaceFits(%d, %d, %d, %d) is not %t", place, from, to, many, want)
					}
				}
			}
		}
	}
}

func TestPlaceFitsOfFarNumbers(t *testing.T) {
	far := []int{-1 << 63, -1 << 32, 1 << 32, 1<<63 - 1}
	for _, n := range far {
		for _, args := range [][4]int{{n, 0, 1, 2}, {0, n, 1, 2}, {0, 0, n, 2}, {0, 0, 1, n}, {0, 0, n, n}, {0, n, n, n}, {0, n - 1, n, n}, {1, 0, n, n}} {
			if impl.PlaceFits(args[0], args[1], args[2], args[3]) {
				t.Errorf("PlaceFits(%v) is true", args)
			}
		}
	}
}

func TestP21EachPartIsInOnePlace(t *testing.T) {
	for many := 0; many <= 17; many++ {
		for from := -1; from <= many; from++ {
			for to := from; to <= many+1; to++ {
				fits := 0
				for _, place := range places[1:] {
					if impl.PlaceFits(place, from, to, many) {
						fits++
					}
				}
				if any := impl.PlaceFits(impl.PlAny, from, to, many); any && fits != 1 || !any && fits != 0 {
					t.Errorf("%d to %d of %d is in %d places", from, to, many, fits)
				}
			}
		}
	}
}

func TestRulesAt(t *testing.T) {
	for _, c := range []struct {
		table []impl.Rule
		word  string
		at    int
		rules []int
	}{
		{english(), "other", 0, nil}, {english(), "other", 1, []int{0, 2}}, {english(), "other", 2, nil}, {english(), "other", 3, []int{5}}, {english(), "other", 4, nil},
		{english(), "ing", 0, nil}, {english(), "thing", 2, []int{3}}, {english(), "things", 2, nil},
		{english(), "but", 0, []int{4}}, {english(), "butter", 0, nil}, {english(), "abut", 1, nil},
		{english(), "con", 0, nil}, {english(), "cone", 0, []int{8}}, {english(), "icon", 1, nil},
		{english(), "ea", 0, nil}, {english(), "eat", 0, nil}, {english(), "tea", 1, nil}, {english(), "team", 1, []int{9}},
		{samePlaces(), "ab", 0, []int{0, 2}}, {samePlaces(), "abab", 0, []int{1, 2}}, {samePlaces(), "abab", 2, []int{2, 4}}, {samePlaces(), "cabc", 1, []int{2, 3}},
		{samePlaces(), "b", 0, []int{5, 7}}, {samePlaces(), "ab", 1, []int{5, 6}}, {samePlaces(), "abc", 1, []int{5}},
	} {
		wantCells(t, fmt.Sprintf("RulesAt(%q, %d)", c.word, c.at), impl.RulesAt(c.table, c.word, c.at), c.rules)
	}
}

func TestP22RulesApplyWhereTheirLettersAre(t *testing.T) {
	eachWord(func(table []impl.Rule, word string) {
		for at := range word {
			var want []int
			for i, r := range table {
				if applies(r, word, at) {
					want = append(want, i)
				}
			}
			wantCells(t, fmt.Sprintf("RulesAt(%v, %q, %d)", table, word, at), impl.RulesAt(table, word, at), want)
		}
	})
}

func TestRulesAtOfOtherArguments(t *testing.T) {
	one := []impl.Rule{rule("a", impl.PlAny, 46)}
	for _, at := range []int{-1, -2, 3, 4, 16, 1 << 32, 1<<63 - 1, -1 << 63} {
		wantCells(t, fmt.Sprintf("RulesAt(%d)", at), impl.RulesAt(one, "aaa", at), nil)
	}
	for _, word := range noWords {
		wantCells(t, fmt.Sprintf("RulesAt(%q)", word), impl.RulesAt(one, word, 0), nil)
	}
	for _, table := range noTables() {
		for _, word := range []string{"the", "st", "aaaaaa"} {
			wantCells(t, fmt.Sprintf("RulesAt(%v, %q)", table, word), impl.RulesAt(table, word, 0), nil)
		}
	}
	long := strings.Repeat("a", 16)
	wantCells(t, "RulesAt the end of 16 letters", impl.RulesAt(one, long, 15), []int{0})
	wantCells(t, "RulesAt behind 16 letters", impl.RulesAt(one, long, 16), nil)
	wantCells(t, "RulesAt of 17 letters", impl.RulesAt(one, long+"a", 0), nil)
}

func TestP23FewerRulesApplyInSmallerTables(t *testing.T) {
	eachWord(func(table []impl.Rule, word string) {
		last := len(table) - 1
		for at := 0; at < len(word) && last >= 0; at++ {
			all := impl.RulesAt(table, word, at)
			if len(all) > 0 && all[len(all)-1] == last {
				all = all[:len(all)-1]
			}
			wantCells(t, fmt.Sprintf("RulesAt(%v, %q, %d)", table[:last], word, at), impl.RulesAt(table[:last], word, at), all)
		}
	})
}

func TestRulesAreNewMemory(t *testing.T) {
	table := english()
	first := impl.RulesAt(table, "then", 0)
	first[0] = 63
	wantCells(t, "RulesAt after a change of its result", impl.RulesAt(table, "then", 0), []int{0, 2})
	if fmt.Sprint(table) != fmt.Sprint(english()) {
		t.Errorf("the table after the calls = %v", table)
	}
}
