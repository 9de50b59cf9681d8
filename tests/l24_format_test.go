package tests

import (
	"fmt"
	"strings"
	"testing"

	"loop.example/braille/impl"
)

func TestFormatTable(t *testing.T) {
	for _, c := range []struct {
		table []impl.Rule
		text  string
	}{
		{nil, ""}, {[]impl.Rule{}, ""}, {english()[:2], "any the 2346\nany and 12346\n"}, {[]impl.Rule{rule("a", impl.PlMiddle, 63)}, "middle a 123456\n"},
		{samePlaces(), "word ab 2346\nbegin ab 12346\nany ab 346\nmiddle ab 1456\nend ab 12456\nany b 26-26\nend b 46\nword b 14\n"},
		{english()[4:], "word but 12\nany er 12456\nany en 26\nend ance 46-15\nbegin con 16\nmiddle ea 4\n"},
	} {
		if got := impl.FormatTable(c.table); got != c.text {
			t.Errorf("FormatTable(%v) = %q, want %q", c.table, got, c.text)
		}
		wantTable(t, c.text, c.table)
	}
	for _, table := range tables() {
		text := tableText(table)
		if got := impl.FormatTable(table); got != text {
			t.Errorf("FormatTable(%v) = %q, want %q", table, got, text)
		}
		wantTable(t, text, table)
	}
}

func TestFormatTableOfOtherTables(t *testing.T) {
	for _, table := range noTables() {
		if got := impl.FormatTable(table); got != "" {
			t.Errorf("FormatTable(%v) = %q", table, got)
		}
	}
}

func TestEachRuleIsWrittenAndRead(t *testing.T) {
	forbidden := forbiddenCells()
	for cell := range 64 {
		for place, name := range placeNames {
			for _, c := range []struct {
				text  string
				cells []int
			}{{"abc", []int{cell}}, {"a", []int{cell, 63 - cell}}, {"zzzzzz", []int{1, cell}}} {
				table := []impl.Rule{rule(c.text, place, c.cells...)}
				var dots []string
				good := true
				for _, n := range c.cells {
					dots = append(dots, textOfDots(impl.DotsOf(n)))
					good = good && count(forbidden, n) == 0
				}
				text := name + " " + c.text + " " + strings.Join(dots, "-") + "\n"
				if !good {
					wantNoTable(t, text)
					continue
				}
				if got := impl.FormatTable(table); got != text {
					t.Errorf("FormatTable(%v) = %q, want %q", table, got, text)
				}
				wantTable(t, text, table)
			}
		}
	}
}

func TestParseTableOfOtherTexts(t *testing.T) {
	for _, text := range noTableTexts {
		wantNoTable(t, text)
		wantNoTable(t, "any and 12346\n"+text)
	}
	full := tableText(fullTable())
	wantTable(t, full, fullTable())
	for _, more := range []string{"any b 1\n", "any and 12346\nend ing 346\n", strings.Repeat("any b 1\n", 100000), "\n", "x"} {
		wantNoTable(t, full+more)
		wantNoTable(t, more+full)
	}
	long := strings.Repeat("1", 1000000)
	for _, text := range []string{long, long + "\n", "any the " + long + "\n", "any the " + strings.Repeat("1-", 1000000) + "1\n", "any " + strings.Repeat("a", 1000000) + " 1\n", strings.Repeat("\n", 1000000), strings.Repeat(" ", 1000000) + "\n", "any the " + strings.Repeat("1-", 199) + "1\n"} {
		wantNoTable(t, text)
	}
}

func TestParseTableOfChangedTexts(t *testing.T) {
	seq := sequence{142}
	read, others := 0, 0
	for _, table := range tables() {
		for _, text := range changedTexts(&seq, tableText(table)) {
			want, ok := tableFound(text)
			if !ok {
				others++
				wantNoTable(t, text)
				continue
			}
			read++
			wantTable(t, text, want)
		}
	}
	if read < 100 || others < 1000 {
		t.Errorf("%d texts are read, and %d are not", read, others)
	}
}

func TestSafeTable(t *testing.T) {
	for _, c := range []struct {
		table []impl.Rule
		words string
		safe  bool
	}{
		{nil, "", true}, {nil, "but", true}, {nil, "abcdef", true}, {nil, "abcdefg", false}, {nil, "a b c abcdefghijklmnop", false},
		{english(), "", true}, {english(), "the", true}, {english(), "the other thing", true}, {english(), "but", false}, {english(), "b", false}, {english(), "the but", false}, {english(), "but the", false}, {english(), "the but thing", false},
		{english(), "abcdefg", false}, {english(), longestWord, true}, {english(), longestWord + "b", false}, {english(), "the the the", true}, {english(), "bb", true},
		{lookalikes(), "d", true}, {lookalikes(), "c", false}, {lookalikes(), "a", false}, {lookalikes(), "d a", false},
		{[]impl.Rule{rule("the", impl.PlWord, 3)}, "the", false}, {[]impl.Rule{rule("the", impl.PlWord, 3)}, "b", false}, {[]impl.Rule{rule("the", impl.PlEnd, 3)}, "b the", true}, {[]impl.Rule{rule("the", impl.PlEnd, 3)}, "athe", false},
	} {
		if got := impl.SafeTable(c.table, strings.Fields(c.words)); got != c.safe {
			t.Errorf("SafeTable(%v, %q) is %t", c.table, c.words, got)
		}
	}
	safe, others := 0, 0
	for _, table := range tables() {
		known := newSafety(table)
		for _, list := range wordLists() {
			want := known.allSafe(list)
			if impl.SafeTable(table, list) != want {
				t.Errorf("SafeTable(%v, %q) is %t", table, list, !want)
			}
			if want {
				safe++
			} else {
				others++
			}
		}
	}
	if safe < 1000 || others < 1000 {
		t.Errorf("%d lists are safe, and %d are not", safe, others)
	}
}

func TestSafeTableOfOtherArguments(t *testing.T) {
	for _, word := range noWords {
		for _, table := range [][]impl.Rule{nil, english()} {
			for _, list := range [][]string{{word}, {"the", word}, {word, "the"}, {"the", word, "and"}} {
				if impl.SafeTable(table, list) {
					t.Errorf("SafeTable(%.100q) is true", list)
				}
			}
		}
	}
	for _, table := range noTables() {
		for _, list := range [][]string{nil, {"the"}, {"x"}, {""}} {
			if impl.SafeTable(table, list) {
				t.Errorf("SafeTable(%v, %q) is true", table, list)
			}
		}
	}
	many := make([]string, 1000)
	for i := range many {
		many[i] = "the"
	}
	if !impl.SafeTable(english(), many) {
		t.Error("SafeTable of a thousand words is false")
	}
	many[999] = "but"
	if impl.SafeTable(english(), many) {
		t.Error("SafeTable of a thousand words, the last of which is not safe, is true")
	}
}

func TestP52TextsOfSafeWordsAreReadBack(t *testing.T) {
	read, others := 0, 0
	eachText(func(table []impl.Rule, text string) {
		safe := impl.SafeTable(table, impl.WordsIn(text))
		back, ok := impl.ReadText(table, impl.TextCells(table, text))
		if ok != safe || ok && back != text || !ok && back != "" {
			t.Errorf("ReadText(%v) of TextCells(%q) = %q, %t, and SafeTable is %t", table, text, back, ok, safe)
		}
		if ok {
			read++
		} else {
			others++
		}
	})
	if read < 1000 || others < 1000 {
		t.Errorf("%d texts are read back, and %d are not", read, others)
	}
}

func TestP169TablesAreReadBack(t *testing.T) {
	for _, table := range append(tables(), smallTables()...) {
		wantTable(t, impl.FormatTable(table), table)
	}
}

func TestP170TextsOfTablesAreWrittenBack(t *testing.T) {
	seq := sequence{143}
	read := 0
	check := func(text string) {
		if table, ok := impl.ParseTable(text); ok {
			read++
			if got := impl.FormatTable(table); got != text || !impl.ValidTable(table) {
				t.Errorf("FormatTable of ParseTable(%q) = %q", text, got)
			}
		}
	}
	for _, table := range tables() {
		text := tableText(table)
		check(text)
		for _, changed := range changedTexts(&seq, text) {
			check(changed)
		}
	}
	for _, text := range append(noTableTexts, "") {
		check(text)
	}
	if read < 200 {
		t.Errorf("only %d texts are read", read)
	}
}

func TestP171PartsOfSafeListsAreSafe(t *testing.T) {
	safe := 0
	for _, table := range tables() {
		if !impl.SafeTable(table, nil) {
			t.Errorf("SafeTable(%v) of no words is false", table)
		}
		for _, list := range wordLists() {
			each := true
			for _, word := range list {
				each = impl.SafeTable(table, []string{word}) && each
			}
			if impl.SafeTable(table, list) != each {
				t.Errorf("SafeTable(%v, %q) is %t", table, list, !each)
			}
			for from := range len(list) {
				if each && !impl.SafeTable(table, list[from:]) {
					t.Errorf("SafeTable(%v, %q) is false", table, list[from:])
				}
			}
			if each && len(list) > 1 {
				safe++
			}
		}
	}
	if safe < 1000 {
		t.Errorf("only %d lists are safe", safe)
	}
}

func TestP172SafeWordsLookDifferent(t *testing.T) {
	alike := 0
	for _, table := range tables() {
		safe := map[string]string{}
		all := map[string]string{}
		for _, word := range words() {
			cells := fmt.Sprint(impl.WordCells(table, word))
			if other := all[cells]; other != "" && other != word {
				alike++
				if impl.SafeTable(table, []string{word, other}) {
					t.Errorf("SafeTable(%v) of %q and %q is true", table, word, other)
				}
			}
			all[cells] = word
			if !impl.SafeTable(table, []string{word}) {
				continue
			}
			if other := safe[cells]; other != "" && other != word {
				t.Errorf("SafeTable(%v) of %q and of %q is true", table, word, other)
			}
			safe[cells] = word
		}
	}
	if alike < 1000 {
		t.Errorf("only %d words look like others", alike)
	}
}

func TestP173LettersAreSafe(t *testing.T) {
	all := append(words(), textsOf(smallLetters, 2)[1:]...)
	for many := 1; many <= 16; many++ {
		all = append(all, strings.Repeat("j", many), smallLetters[:many], smallLetters[26-many:])
	}
	for _, word := range all {
		if got := impl.SafeTable(nil, []string{word}); got != (len(word) <= 6) {
			t.Errorf("SafeTable(%q) by no rules is %t", word, got)
		}
	}
	short := append(textsOf("az", 6)[1:], "abcdef", "uvwxyz")
	if !impl.SafeTable(nil, short) {
		t.Error("SafeTable of words of at most six letters by no rules is false")
	}
}

func TestTablesAreNewMemory(t *testing.T) {
	text := "word but 12\nend ance 46-15\nany the 2346\n"
	table, _ := impl.ParseTable(text)
	var lists [][]int
	for i := range table {
		lists = append(lists, table[i].Cells)
	}
	wantApart(t, "ParseTable", lists)
	wantTable(t, text, []impl.Rule{rule("but", impl.PlWord, 3), rule("ance", impl.PlEnd, 40, 17), rule("the", impl.PlAny, 46)})
	given := english()
	list := []string{"the", "but", "thing"}
	for range 2 {
		impl.SafeTable(given, list)
		impl.FormatTable(given)
		if !sameTable(given, english()) || !sameTexts(list, []string{"the", "but", "thing"}) {
			t.Errorf("the arguments after the calls = %v, %q", given, list)
		}
	}
}
