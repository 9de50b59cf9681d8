package tests

import (
	"fmt"
	"strings"
	"testing"

	"loop.example/braille/impl"
)

// contractedTexts are texts with their cells by a table, told as by
// cellsWritten, and with what characters these show.
var contractedTexts = []struct {
	table  []impl.Rule
	text   string
	cells  string
	places []int
}{
	{english(), "", "", nil},
	{english(), " ", "0", []int{0}},
	{english(), "the", "2346", []int{0}},
	{english(), "the the", "2346-0-2346", []int{0, 3, 4}},
	{english(), "a thing.", "1-0-1456-346-256", []int{0, 1, 2, 4, 7}},
	{english(), "dance, dance", "145-46-15-2-0-145-46-15", []int{0, 1, 1, 5, 6, 7, 8, 8}},
	// Only small letters that are the whole run are contracted.
	{english(), "The", "C-2345-125-15", []int{0, 0, 1, 2}},
	{english(), "tHe", "2345-C-125-15", []int{0, 1, 1, 2}},
	{english(), "thE", "2345-125-C-15", []int{0, 1, 2, 2}},
	{english(), "THE", "C-C-2345-125-15", []int{0, 0, 0, 1, 2}},
	{english(), "andE", "1-1345-145-C-15", []int{0, 1, 2, 3, 3}},
	{english(), "Eand", "C-15-1-1345-145", []int{0, 0, 1, 2, 3}},
	{english(), "THEthe", "C-2345-C-125-C-15-2345-125-15", []int{0, 0, 1, 1, 2, 2, 3, 4, 5}},
	{english(), "THE the", "C-C-2345-125-15-0-2346", []int{0, 0, 0, 1, 2, 3, 4}},
	// Letters directly behind a digit are not contracted, and those before one
	// are.
	{english(), "3the", "N-14-2345-125-15", []int{0, 0, 1, 2, 3}},
	{english(), "3and", "N-14-L-1-1345-145", []int{0, 0, 1, 1, 2, 3}},
	{english(), "31and", "N-14-1-L-1-1345-145", []int{0, 0, 1, 2, 2, 3, 4}},
	{english(), "3AND", "N-14-C-C-1-1345-145", []int{0, 0, 1, 1, 1, 2, 3}},
	{english(), "3And", "N-14-C-1-1345-145", []int{0, 0, 1, 1, 2, 3}},
	{english(), "the31", "2346-N-14-1", []int{0, 3, 3, 4}},
	{english(), "and1and", "12346-N-1-L-1-1345-145", []int{0, 3, 3, 4, 4, 5, 6}},
	{english(), "3 and", "N-14-0-12346", []int{0, 0, 1, 2}},
	{english(), "3.and", "N-14-256-12346", []int{0, 0, 1, 2}},
	{english(), "3-and", "N-14-36-12346", []int{0, 0, 1, 2}},
	{english(), "3a and", "N-14-L-1-0-12346", []int{0, 0, 1, 1, 2, 3}},
	// Marks part words, each of which is a whole one.
	{english(), "but", "12", []int{0}},
	{english(), "but.", "12-256", []int{0, 3}},
	{english(), "but-but", "12-36-12", []int{0, 3, 4}},
	{english(), "but'but but", "12-3-12-0-12", []int{0, 3, 4, 7, 8}},
	{english(), "buts", "12-136-2345-234", []int{0, 1, 2, 3}},
	{english(), "but1", "12-N-1", []int{0, 3, 3}},
	{english(), "th'ing", "1456-3-24-1345-1245", []int{0, 2, 3, 4, 5}},
	{english(), "con-ea", "14-135-1345-36-15-1", []int{0, 1, 2, 3, 4, 5}},
	{english(), "cone ten tea team", "16-15-0-2345-26-0-2345-15-1-0-2345-4-134", []int{0, 3, 4, 5, 6, 8, 9, 10, 11, 12, 13, 14, 16}},
	// The fewest cells are chosen, and of these the longest pieces.
	{overlapping(), "abcd abc", "1-12346-0-1456-1456", []int{0, 1, 4, 5, 5}},
	{samePlaces(), "ab aba aab", "2346-0-12346-1-0-1-346", []int{0, 2, 3, 5, 6, 7, 8}},
	{nil, "the3and", "2345-125-15-N-14-L-1-1345-145", []int{0, 1, 2, 3, 3, 4, 4, 5, 6}},
}

func TestTextCellsAndPlaces(t *testing.T) {
	for _, c := range contractedTexts {
		wantCells(t, fmt.Sprintf("TextCells(%q)", c.text), impl.TextCells(c.table, c.text), cellsWritten(t, c.cells))
		wantCells(t, fmt.Sprintf("TextPlaces(%q)", c.text), impl.TextPlaces(c.table, c.text), c.places)
	}
}

func TestTextsOfAllKinds(t *testing.T) {
	eachText(func(table []impl.Rule, text string) {
		call := fmt.Sprintf("(%v, %q)", table, text)
		want := showText(table, text)
		wantCells(t, "TextCells"+call, impl.TextCells(table, text), want.cells)
		wantCells(t, "TextPlaces"+call, impl.TextPlaces(table, text), want.places)
	})
}

func TestWordsIn(t *testing.T) {
	for _, text := range texts() {
		wantWords(t, fmt.Sprintf("WordsIn(%q)", text), impl.WordsIn(text), showText(nil, text).words)
	}
	for text, words := range map[string]string{
		"": "", " ": "", "A": "", "1": "", ".": "", "a": "a", "the Dog and 3a but.": "the and but", "it's a-b": "it s a b", "tHe the1the": "the", "1 a 1a a1": "a a",
		longestWord: longestWord, longestWord + "b": "", longestWord + "b a": "a", "1" + longestWord: "", longestWord + "1": longestWord, longestWord + "A": "",
	} {
		wantWords(t, fmt.Sprintf("WordsIn(%q)", text), impl.WordsIn(text), strings.Fields(words))
	}
}

func TestLongWords(t *testing.T) {
	if len(longestWord) != 16 {
		t.Fatalf("%q has %d letters", longestWord, len(longestWord))
	}
	short := []int{47, 46, 47, 46, 47, 1}
	for many := 1; many <= 60; many++ {
		text := strings.Repeat("a", many)
		table := []impl.Rule{rule("aa", impl.PlAny, 46)}
		want := filled(many, 1)
		if many <= 16 {
			want = joined(filled(many/2, 46), filled(many%2, 1))
		}
		wantCells(t, fmt.Sprintf("TextCells of %d letters", many), impl.TextCells(table, text), want)
	}
	long := impl.PlainCells(longestWord)
	wantCells(t, "TextCells of 16 letters", impl.TextCells(english(), longestWord), short)
	wantCells(t, "TextPlaces of 16 letters", impl.TextPlaces(english(), longestWord), []int{0, 3, 6, 9, 12, 15})
	wantCells(t, "TextCells of 17 letters", impl.TextCells(english(), longestWord+"b"), joined(long, []int{3}))
	wantCells(t, "TextCells of 16 letters and 16 others", impl.TextCells(english(), longestWord+"'"+longestWord), joined(short, []int{4}, short))
	wantCells(t, "TextCells of 16 letters and a capital one", impl.TextCells(english(), longestWord+"B"), joined(long, []int{32, 3}))
	wantCells(t, "TextCells of 16 letters behind a digit", impl.TextCells(english(), "1"+longestWord), joined([]int{60, 1, 48}, long))
	wantCells(t, "TextCells of 17 letters behind a digit", impl.TextCells(english(), "1"+longestWord+"b"), joined([]int{60, 1, 48}, long, []int{3}))
	wantCells(t, "TextCells of 16 letters before a digit", impl.TextCells(english(), longestWord+"1"), joined(short, []int{60, 1}))
	wantCells(t, "TextCells of 17 letters before a digit", impl.TextCells(english(), longestWord+"b1"), joined(long, []int{3, 60, 1}))
}

func TestTextsAtTheLimit(t *testing.T) {
	text := strings.Repeat("the ", 15)
	if cells := impl.TextCells(english(), text); len(cells) != 30 {
		t.Errorf("TextCells of 60 characters = %v", cells)
	}
	if cells := impl.TextCells(nil, strings.Repeat("a1", 30)); len(cells) != 119 {
		t.Errorf("TextCells of 60 characters with signs = %v", cells)
	}
	for _, text := range noTexts {
		for _, table := range [][]impl.Rule{nil, english()} {
			wantCells(t, fmt.Sprintf("TextCells(%q)", text), impl.TextCells(table, text), nil)
			wantCells(t, fmt.Sprintf("TextPlaces(%q)", text), impl.TextPlaces(table, text), nil)
		}
		wantWords(t, fmt.Sprintf("WordsIn(%q)", text), impl.WordsIn(text), nil)
	}
	for _, table := range noTables() {
		for _, text := range []string{"", "the", "The 1", "st st"} {
			wantCells(t, fmt.Sprintf("TextCells(%v, %q)", table, text), impl.TextCells(table, text), nil)
			wantCells(t, fmt.Sprintf("TextPlaces(%v, %q)", table, text), impl.TextPlaces(table, text), nil)
		}
		for _, cells := range [][]int{nil, {0}, {1}, {46}, {12}, {32, 1}} {
			if text, ok := impl.ReadText(table, cells); ok || text != "" {
				t.Errorf("ReadText(%v, %v) = %q, %t", table, cells, text, ok)
			}
		}
	}
}

func TestP49WithoutRulesTextsArePlain(t *testing.T) {
	for _, text := range texts() {
		wantCells(t, fmt.Sprintf("TextCells(%q)", text), impl.TextCells(nil, text), impl.PlainCells(text))
	}
	shorter := 0
	eachText(func(table []impl.Rule, text string) {
		cells, plain := impl.TextCells(table, text), impl.PlainCells(text)
		if len(cells) > len(plain) {
			t.Errorf("TextCells(%v, %q) has %d cells, and PlainCells %d", table, text, len(cells), len(plain))
		}
		if len(cells) < len(plain) {
			shorter++
		}
	})
	if shorter < 1000 {
		t.Errorf("only %d texts become shorter", shorter)
	}
}

func TestP50SpacesPartContractedTexts(t *testing.T) {
	eachText(func(table []impl.Rule, text string) {
		cells := impl.TextCells(table, text)
		for i := range text {
			if text[i] == ' ' {
				want := joined(impl.TextCells(table, text[:i]), []int{0}, impl.TextCells(table, text[i+1:]))
				wantCells(t, fmt.Sprintf("TextCells(%v, %q)", table, text), cells, want)
			}
		}
	})
}

func TestP51WordsAloneAreContracted(t *testing.T) {
	eachWord(func(table []impl.Rule, word string) {
		wantCells(t, fmt.Sprintf("TextCells(%v, %q)", table, word), impl.TextCells(table, word), impl.WordCells(table, word))
	})
	wantCells(t, "WordCells of 16 letters", impl.TextCells(english(), longestWord), impl.WordCells(english(), longestWord))
}

func TestP53CellsShowCharactersInOrder(t *testing.T) {
	eachText(func(table []impl.Rule, text string) {
		cells, places := impl.TextCells(table, text), impl.TextPlaces(table, text)
		call := fmt.Sprintf("TextPlaces(%v, %q) = %v", table, text, places)
		if len(places) != len(cells) {
			t.Errorf("%s, and there are %d cells", call, len(cells))
		}
		if len(places) > 0 && (places[0] != 0 || places[len(places)-1] >= len(text)) {
			t.Error(call)
		}
		for i := 1; i < len(places); i++ {
			if places[i] < places[i-1] {
				t.Error(call)
			}
		}
	})
}

func TestP54SpacesShowThemselves(t *testing.T) {
	eachText(func(table []impl.Rule, text string) {
		spaces := 0
		cells, places := impl.TextCells(table, text), impl.TextPlaces(table, text)
		for i := range cells {
			if cells[i] != 0 {
				continue
			}
			spaces++
			if i >= len(places) || text[places[i]] != ' ' {
				t.Errorf("TextPlaces(%v, %q) = %v, and the cells are %v", table, text, places, cells)
			}
		}
		if spaces != strings.Count(text, " ") {
			t.Errorf("TextCells(%v, %q) = %v", table, text, cells)
		}
	})
}

func TestP55WordsInTextsAreWords(t *testing.T) {
	for _, text := range append(texts(), plainTexts()...) {
		words := impl.WordsIn(text)
		for _, word := range words {
			if !wholeWord.MatchString(word) {
				t.Errorf("WordsIn(%q) = %q", text, words)
			}
		}
		if len(strings.Join(words, "")) > len(text) {
			t.Errorf("WordsIn(%q) = %q", text, words)
		}
	}
}

func TestP56AWordHasItselfInIt(t *testing.T) {
	all := append(words(), longestWord)
	for i, word := range all {
		wantWords(t, fmt.Sprintf("WordsIn(%q)", word), impl.WordsIn(word), []string{word})
		other := all[len(all)-1-i]
		wantWords(t, fmt.Sprintf("WordsIn(%q, %q)", word, other), impl.WordsIn(word+" "+other), []string{word, other})
	}
}

func TestReadText(t *testing.T) {
	for _, text := range []string{
		"", " ", "  ", "the", "the Dog and 3a", "then, other thing!", "NATO and McD 12k", "end-on", "the1the", "the and1and", "the THE The tHe", "it's", "1the", "12a", "12k", "a1b1 c", "A1b", "AB1CD",
		// These are no words that are contracted, so that none looks like them.
		"But", "BUT", "B", "1but", "1b", "1B", "buT", "bB", "McB",
		// There are as many cells as a word can have, but more letters or none
		// that are contracted.
		"abcdef", "andersender", "ABCDEFGHIJ", "Abcdefghij", "abcdefghiJ", "1abcdefghij", longestWord, longestWord + "-" + longestWord,
		// Words of more than 16 letters have no bound but that of the text.
		longestWord + "b", "abcdefghijklmnopq", strings.Repeat("the", 20), strings.Repeat("b", 17), strings.Repeat("b", 60), "the " + strings.Repeat("b", 17) + " the", strings.Repeat("b", 17) + "1",
		strings.Repeat("the ", 15), strings.Repeat("the", 5) + strings.Repeat(".", 45),
	} {
		if back, ok := impl.ReadText(english(), impl.TextCells(english(), text)); !ok || back != text {
			t.Errorf("ReadText of TextCells(%q) = %q, %t", text, back, ok)
		}
	}
	for _, text := range []string{
		"but", "b", "but.", "the but", "b the", "but1", "1 b", "'b'", "B b", // two words look alike
		"abcdefg", "the abcdefg", "abcdefghijklmnop", "abcdefg-the", "abcdefg1", // words of more than six cells
	} {
		if back, ok := impl.ReadText(english(), impl.TextCells(english(), text)); ok || back != "" {
			t.Errorf("ReadText of TextCells(%q) = %q, %t", text, back, ok)
		}
	}
}

func TestReadTextOfCellsThatAreNoText(t *testing.T) {
	for _, cells := range []string{
		"1456-26", "2345-125-15", "1-1345-145", "0-2345-125-15-0", "2345-125-15-N-1", // words that have better pieces
		"346", "346-1", "16", "26-123456", // rules that are not in their places, and cells of nothing
		"N-1-2346", "C-2346", "C-C-2346", "2346-C-1", "N-1-L-12346", "N-1-46-15", // contractions where none are
		"N", "C", "L", "C-C", "2346-C", "2346-L", "2346-N", "2346-0-C", // signs for nothing
		"L-1", "L-2346", "2346-L-2346", "2346-L-1", "0-L-1", "1-L-1", "256-L-1", // letters that are not behind digits
		"N-13", "N-2346", "2346-N-2346", "N-1-N-1", "2346-N-1-N-1", "N-1-L-13", "N-1-L", "N-1-L-L-1", "N-1-L-C-1", // signs where none are due
		"C-C-1", "C-C-C-1-12", "C-1-C-12", "C-C-1-C-12", "C-0", "C-256", "C-N-1", "2346-C-0", // wrong signs for capital letters
		"123456", "2346-123456", "123456-0-2346", "2346-0-4", "256-5",
	} {
		if text, ok := impl.ReadText(english(), cellsWritten(t, cells)); ok || text != "" {
			t.Errorf("ReadText of %s = %q, %t", cells, text, ok)
		}
	}
	lists := [][]int{filled(61, 0), filled(61, 1), filled(61, 50), filled(200, 0), filled(200, 1), filled(200, 46), filled(201, 0), filled(201, 1), filled(100000, 0), filled(16, 46), filled(17, 46), filled(17, 63)}
	for _, n := range noCells {
		lists = append(lists, []int{n}, []int{46, n}, []int{n, 46}, []int{46, 0, n}, []int{60, n}, []int{32, n}, []int{60, 1, n})
	}
	for many := 7; many <= 16; many++ {
		lists = append(lists, filled(many, 1), joined(filled(many, 1), []int{0}), joined([]int{46, 0}, filled(many, 1)))
	}
	for _, cells := range lists {
		for _, table := range [][]impl.Rule{nil, english()} {
			if text, ok := impl.ReadText(table, cells); ok || text != "" {
				t.Errorf("ReadText(%v) = %q, %t", cells, text, ok)
			}
		}
	}
}

func TestReadTextAtTheLimit(t *testing.T) {
	for many := 0; many <= 70; many++ {
		for _, part := range []struct {
			text  string
			cells []int
		}{{" ", []int{0}}, {".", []int{50}}, {"the ", []int{46, 0}}, {"1.", []int{60, 1, 50}}, {"A-", []int{32, 1, 36}}} {
			text := strings.Repeat(part.text, many)
			var cells []int
			for range many {
				cells = append(cells, part.cells...)
			}
			want := text
			if len(text) > 60 {
				want = ""
			}
			if back, ok := impl.ReadText(english(), cells); ok != (len(text) <= 60) || back != want {
				t.Errorf("ReadText of %q = %q, %t", text, back, ok)
			}
		}
	}
	// A word has more letters than cells, so that the text ends in the midst of
	// the cells of one.
	six := []impl.Rule{rule("aaaaaa", impl.PlAny, 46)}
	for _, c := range []struct {
		cells []int
		ok    bool
	}{
		{[]int{46, 0, 46, 46, 0, 46, 46, 0, 46, 46, 0, 46, 46}, true},
		{[]int{46, 46, 0, 46, 46, 0, 46, 46, 0, 46, 46, 0, 46, 1, 1}, true},
		{[]int{46, 46, 0, 46, 46, 0, 46, 46, 0, 46, 46, 0, 46, 1, 1, 1}, false},
		{[]int{46, 46, 46, 0, 46}, false},
	} {
		if text, ok := impl.ReadText(six, c.cells); ok != c.ok || ok && !equal(impl.TextCells(six, text), c.cells) {
			t.Errorf("ReadText(%v) = %q, %t", c.cells, text, ok)
		}
	}
}

// textsBySafeCells returns the texts with at most three cells by a table, that
// ReadText may return, by their cells as text. No rule has more than two
// letters, all of them from a to c, or fewer cells than one.
func textsBySafeCells(table []impl.Rule) map[string][]string {
	all := textsOf("abcABC123. ", 4)
	for _, text := range textsOf("abc. ", 6) {
		if len(text) > 4 {
			all = append(all, text)
		}
	}
	safe := newSafety(table)
	found := map[string][]string{}
	for _, text := range all {
		cells := impl.TextCells(table, text)
		if len(cells) <= 3 && safe.allSafe(showText(nil, text).words) {
			found[fmt.Sprint(cells)] = append(found[fmt.Sprint(cells)], text)
		}
	}
	return found
}

func TestReadTextOfAllShortLists(t *testing.T) {
	lists := allLists([]int{1, 3, 9, 34, 44, 46, 47, 63, 0, 50, impl.SignNumber, impl.SignCapital, impl.SignLetter}, 3)
	for i, table := range smallTables() {
		if i > 10 {
			break
		}
		found := textsBySafeCells(table)
		for _, cells := range lists {
			texts := found[fmt.Sprint(cells)]
			text, ok := impl.ReadText(table, cells)
			if len(texts) > 1 || ok != (len(texts) == 1) || ok && text != texts[0] || !ok && text != "" {
				t.Errorf("ReadText(%v, %v) = %q, %t, want one of %q", table, cells, text, ok, texts)
			}
		}
	}
}

func TestTextsAreReadBack(t *testing.T) {
	read, others := 0, 0
	for _, table := range tables() {
		safe := newSafety(table)
		for _, text := range texts() {
			want, wantOk := "", safe.allSafe(showText(nil, text).words)
			if wantOk {
				want = text
				read++
			} else {
				others++
			}
			if back, ok := impl.ReadText(table, impl.TextCells(table, text)); ok != wantOk || back != want {
				t.Errorf("ReadText(%v) of TextCells(%q) = %q, %t", table, text, back, ok)
			}
		}
	}
	if read < 1000 || others < 1000 {
		t.Errorf("%d texts are read back, and %d are not", read, others)
	}
}

func TestP57ContractedTextsAreWrittenBack(t *testing.T) {
	read := 0
	for i, table := range tables() {
		safe := newSafety(table)
		seq := sequence{uint64(i)}
		for n, text := range texts() {
			cells := impl.TextCells(table, text)
			if len(cells) == 0 || n%3 > 0 {
				continue
			}
			for _, list := range append(changedCells(&seq, cells), cells) {
				back, ok := impl.ReadText(table, list)
				if !ok {
					if back != "" {
						t.Errorf("ReadText(%v, %v) = %q, %t", table, list, back, ok)
					}
					continue
				}
				read++
				wantCells(t, fmt.Sprintf("TextCells(%v, %q)", table, back), impl.TextCells(table, back), list)
				if !safe.allSafe(showText(nil, back).words) {
					t.Errorf("ReadText(%v, %v) = %q has a word that is not safe", table, list, back)
				}
			}
		}
	}
	if read < 1000 {
		t.Errorf("only %d lists are read", read)
	}
}

func TestP58WithoutRulesTextsAreReadAsPlainOnes(t *testing.T) {
	lists := allLists([]int{1, 5, 63, 0, 50, 36, impl.SignNumber, impl.SignCapital, impl.SignLetter}, 4)
	seq := sequence{14}
	for _, text := range append(texts(), plainTexts()[:3000]...) {
		if cells := impl.PlainCells(text); len(cells) > 0 {
			lists = append(lists, cells)
			lists = append(lists, changedCells(&seq, cells)...)
		}
	}
	read := 0
	for _, cells := range lists {
		text, ok := impl.ReadText(nil, cells)
		plain, plainOk := impl.PlainText(cells)
		// Words of more than six cells are read as plain ones alone.
		wantOk := plainOk
		for _, word := range showText(nil, plain).words {
			wantOk = wantOk && len(word) <= 6
		}
		if ok != wantOk || ok && text != plain || !ok && text != "" {
			t.Errorf("ReadText(%v) = %q, %t, and PlainText is %q, %t", cells, text, ok, plain, plainOk)
		}
		if ok {
			read++
		}
	}
	if read < 1000 {
		t.Errorf("only %d lists are read", read)
	}
}

func TestContractedTextsAreNewMemory(t *testing.T) {
	table, text := english(), "the 1a dance"
	cells, places, words := impl.TextCells(table, text), impl.TextPlaces(table, text), impl.WordsIn(text)
	wantCells(t, "TextCells", cells, []int{46, 0, 60, 1, 48, 1, 0, 25, 40, 17})
	for _, list := range [][]int{cells, places} {
		for i := range list {
			list[i] = 63
		}
	}
	words[0] = "x"
	wantCells(t, "TextCells after a change of its result", impl.TextCells(table, text), []int{46, 0, 60, 1, 48, 1, 0, 25, 40, 17})
	wantCells(t, "TextPlaces after a change of its result", impl.TextPlaces(table, text), []int{0, 3, 4, 4, 5, 5, 6, 7, 8, 8})
	wantWords(t, "WordsIn after a change of its result", impl.WordsIn(text), []string{"the", "dance"})
	read := []int{46, 0, 60, 1, 48, 1}
	impl.ReadText(table, read)
	if fmt.Sprint(table) != fmt.Sprint(english()) || !equal(read, []int{46, 0, 60, 1, 48, 1}) {
		t.Errorf("the arguments after the calls = %v, %v", table, read)
	}
}
