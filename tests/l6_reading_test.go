package tests

import (
	"fmt"
	"slices"
	"sort"
	"strings"
	"testing"

	"loop.example/braille/impl"
)

// wantWords fails the test if a list of words is not as it must be.
func wantWords(t *testing.T, call string, got, want []string) {
	t.Helper()
	if !sameTexts(got, want) {
		t.Errorf("%s = %q, want %q", call, got, want)
	}
}

// shortLists returns all lists of one to three of the cells that the tables of
// smallTables and the letters a to c have, and of others.
func shortLists() [][]int {
	lists := [][]int{nil}
	for n := 0; len(lists[n]) < 3; n++ {
		for _, cell := range []int{1, 3, 9, 34, 44, 46, 47, 63, 0} {
			lists = append(lists, joined(lists[n], []int{cell}))
		}
	}
	return lists[1:]
}

// wordsByCells returns the words of the letters a to c that have pieces with
// at most three cells, in ascending order, by these cells as text: once all
// that the cells may stand for, and once those whose best pieces have them. No
// rule has more than two letters.
func wordsByCells(table []impl.Rule) (all, written map[string][]string) {
	all, written = map[string][]string{}, map[string][]string{}
	words := textsOf("abc", 6)[1:]
	sort.Strings(words)
	for _, word := range words {
		ways := piecesFrom(table, word, 0)
		best := cellsOfPieces(table, word, ways[0])
		for _, pieces := range ways {
			cells := cellsOfPieces(table, word, pieces)
			if len(cells) < len(best) {
				best = cells
			}
			text := fmt.Sprint(cells)
			if len(cells) <= 3 && !slices.Contains(all[text], word) {
				all[text] = append(all[text], word)
			}
		}
		if len(best) <= 3 {
			written[fmt.Sprint(best)] = append(written[fmt.Sprint(best)], word)
		}
	}
	return all, written
}

func TestReadingsOfAllShortLists(t *testing.T) {
	for _, table := range smallTables() {
		all, written := wordsByCells(table)
		for _, cells := range shortLists() {
			call := fmt.Sprintf("(%v, %v)", table, cells)
			wantWords(t, "WordsOf"+call, impl.WordsOf(table, cells), all[fmt.Sprint(cells)])
			same := written[fmt.Sprint(cells)]
			word, ok := impl.ReadWord(table, cells)
			if ok != (len(same) == 1) || ok && word != same[0] || !ok && word != "" {
				t.Errorf("ReadWord%s = %q, %t, want one of %q", call, word, ok, same)
			}
			for _, word := range same {
				wantWords(t, fmt.Sprintf("Homographs(%v, %q)", table, word), impl.Homographs(table, word), same)
			}
		}
	}
}

func TestWordsOf(t *testing.T) {
	for _, c := range []struct {
		table []impl.Rule
		cells string
		words string
	}{
		{english(), "12", "b but"},
		{english(), "12-1", "ba"},
		{english(), "2346", "the"},
		{english(), "1456-26", "then"},
		{english(), "1456-346", "thing"},
		{english(), "346", ""},
		{english(), "346-1", ""},
		{english(), "145-46-15", "dance"},
		{english(), "46-15", ""},
		{english(), "46-15-1", ""},
		{english(), "123456", ""},
		{samePlaces(), "2346", "ab"},
		{samePlaces(), "12346", ""},
		{samePlaces(), "12346-1", "aba"},
		{samePlaces(), "1-1456", ""},
		{samePlaces(), "1-1456-1", "aaba"},
		{samePlaces(), "1-12456", "aab"},
		{samePlaces(), "346", "ab"},
		{samePlaces(), "26-26", "b"},
		{samePlaces(), "26", ""},
		{samePlaces(), "26-26-26-26", "bb"},
		{samePlaces(), "14", "b c"},
		{samePlaces(), "14-14", "cc"},
		{lookalikes(), "1", "a ab b ba"},
		{lookalikes(), "14", "aa c"},
		{lookalikes(), "14-1", "ca cab cb cba cca ccab ccb ccba"},
		{lookalikes(), "12-14", "bc"},
		{lookalikes(), "12-14-1", "bca bcab bcb bcba"},
	} {
		cells := cellsWritten(t, c.cells)
		wantWords(t, "WordsOf "+c.cells, impl.WordsOf(c.table, cells), strings.Fields(c.words))
	}
}

// wordsBuilt adds the words that begin with some letters, and whose others have
// the cells, to a set. Where the word ends is not known before, so that places
// are compared at the end.
func wordsBuilt(table []impl.Rule, cells []int, word string, pieces []impl.Piece, set map[string]bool) {
	if len(cells) == 0 {
		for _, piece := range pieces {
			if piece.Rule >= 0 && !applies(table[piece.Rule], word, piece.From) {
				return
			}
		}
		if len(word) <= 16 {
			set[word] = true
		}
		return
	}
	for i, r := range append(slices.Clone(table), rule("", impl.PlAny, cells[0])) {
		if len(r.Cells) > len(cells) || !equal(r.Cells, cells[:len(r.Cells)]) {
			continue
		}
		if i == len(table) {
			n := impl.LetterOf(cells[0])
			if n < 0 {
				continue
			}
			i, r.Text = -1, smallLetters[n:n+1]
		}
		piece := impl.Piece{Rule: i, From: len(word), To: len(word) + len(r.Text)}
		wordsBuilt(table, cells[len(r.Cells):], word+r.Text, append(slices.Clone(pieces), piece), set)
	}
}

func TestReadingsOfLongLists(t *testing.T) {
	seq := sequence{8}
	many := 0 // how many lists are the cells of a word
	for i := 0; i < 1500; i++ {
		table := randomTable(&seq, 1+i%6)
		cells := make([]int, 4+i%3)
		for j := range cells {
			cells[j] = []int{1, 3, 9, 46, 47}[seq.next(5-i%2*2)]
		}
		set := map[string]bool{}
		wordsBuilt(table, cells, "", nil, set)
		var all, written []string
		for word := range set {
			all = append(all, word)
			if equal(impl.WordCells(table, word), cells) {
				written = append(written, word)
			}
		}
		sort.Strings(all)
		sort.Strings(written)
		call := fmt.Sprintf("(%v, %v)", table, cells)
		wantWords(t, "WordsOf"+call, impl.WordsOf(table, cells), all)
		word, ok := impl.ReadWord(table, cells)
		if ok != (len(written) == 1) || ok && word != written[0] || !ok && word != "" {
			t.Errorf("ReadWord%s = %q, %t, want one of %q", call, word, ok, written)
		}
		if len(written) > 0 {
			wantWords(t, "Homographs"+call, impl.Homographs(table, written[0]), written)
			many++
		}
	}
	if many < 100 {
		t.Errorf("only %d lists are those of words", many)
	}
}

// oneCell returns 16 rules of one letter, all of which have the cell of the
// letter a.
func oneCell() []impl.Rule {
	var table []impl.Rule
	for i := 1; i <= impl.MaxRules; i++ {
		table = append(table, rule(smallLetters[i:i+1], impl.PlAny, 1))
	}
	return table
}

func TestWordsOfHoweverManyThereAre(t *testing.T) {
	want := 1
	for many := 1; many <= 5; many++ {
		want *= 17
		words := impl.WordsOf(oneCell(), filled(many, 1))
		if len(words) != want || words[0] != strings.Repeat("a", many) || words[want-1] != strings.Repeat("q", many) {
			t.Errorf("there are %d words of %d cells, want %d", len(words), many, want)
		}
		for i := 1; i < len(words); i++ {
			if words[i-1] >= words[i] {
				t.Fatalf("%q comes before %q", words[i-1], words[i])
			}
		}
		if many > 4 {
			continue
		}
		if same := impl.Homographs(oneCell(), words[want/2]); !sameTexts(same, words) {
			t.Errorf("there are %d Homographs of %q, want %d", len(same), words[want/2], want)
		}
		if word, ok := impl.ReadWord(oneCell(), filled(many, 1)); ok || word != "" {
			t.Errorf("ReadWord = %q", word)
		}
	}
}

func TestWordsOfManyWays(t *testing.T) {
	// The words are few, but there are very many ways to have each of them.
	var table []impl.Rule
	for many := 1; many <= 6; many++ {
		table = append(table, rule(strings.Repeat("a", many), impl.PlAny, 1), rule(strings.Repeat("a", many), impl.PlMiddle, 1))
	}
	var want []string
	for many := 6; many <= 16; many++ {
		want = append(want, strings.Repeat("a", many))
	}
	wantWords(t, "WordsOf six cells", impl.WordsOf(table, filled(6, 1)), want)
	wantWords(t, "WordsOf one cell", impl.WordsOf(table, filled(1, 1)), []string{"a", "aa", "aaa", "aaaa", "aaaaa", "aaaaaa"})
	// No word of so few letters needs six cells.
	if word, ok := impl.ReadWord(table, filled(6, 1)); ok || word != "" {
		t.Errorf("ReadWord of six cells = %q", word)
	}
}

func TestWordsOfTheGreatestLength(t *testing.T) {
	table := []impl.Rule{rule("aaaaaa", impl.PlAny, 46), rule("aaaa", impl.PlAny, 47), rule("aaaaa", impl.PlAny, 44), rule("aaaa", impl.PlEnd, 57), rule("aaaaa", impl.PlEnd, 59)}
	full := []string{strings.Repeat("a", 16)}
	for _, c := range []struct {
		cells []int
		want  []string
	}{
		{[]int{46, 46, 47}, full}, {[]int{47, 46, 46}, full}, {[]int{46, 46, 57}, full}, {[]int{46, 44, 59}, full},
		{[]int{46, 46, 1, 1, 1, 1}, full}, {[]int{1, 44, 1, 44, 47}, full}, {[]int{47, 47, 47, 47}, full},
		{[]int{46, 46, 44}, nil}, {[]int{46, 46, 46}, nil}, {[]int{46, 46, 59}, nil}, {[]int{46, 46, 47, 1}, nil}, {[]int{1, 46, 46, 47}, nil}, {[]int{46, 46, 46, 46, 46, 46}, nil},
		{[]int{57, 46}, nil}, {[]int{57}, nil}, {[]int{1, 57, 1}, nil},
	} {
		wantWords(t, fmt.Sprintf("WordsOf(%v)", c.cells), impl.WordsOf(table, c.cells), c.want)
	}
	if word, ok := impl.ReadWord(table, []int{46, 46, 47}); !ok || word != full[0] {
		t.Errorf("ReadWord of 16 letters = %q, %t", word, ok)
	}
	wantWords(t, "Homographs of 16 letters", impl.Homographs(table, full[0]), full)
	wantWords(t, "Homographs of 17 letters", impl.Homographs(table, full[0]+"a"), nil)
}

func TestReadingsOfOtherArguments(t *testing.T) {
	lists := [][]int{nil, {}, filled(7, 1), filled(200, 1), filled(201, 1), {0}, {1, 0}, {0, 1}, {impl.SignCapital, 1}, {63}, {1, 63}}
	for _, n := range noCells {
		lists = append(lists, []int{n}, []int{1, n}, []int{n, 1})
	}
	for _, cells := range lists {
		for _, table := range [][]impl.Rule{nil, english()} {
			wantWords(t, fmt.Sprintf("WordsOf(%v)", cells), impl.WordsOf(table, cells), nil)
			if word, ok := impl.ReadWord(table, cells); ok || word != "" {
				t.Errorf("ReadWord(%v) = %q, %t", cells, word, ok)
			}
		}
	}
	wantWords(t, "WordsOf six cells", impl.WordsOf(nil, filled(6, 1)), []string{"aaaaaa"})
	if word, ok := impl.ReadWord(nil, filled(6, 1)); !ok || word != "aaaaaa" {
		t.Errorf("ReadWord of six cells = %q, %t", word, ok)
	}
	for _, table := range noTables() {
		wantWords(t, fmt.Sprintf("WordsOf(%v)", table), impl.WordsOf(table, []int{1}), nil)
		if word, ok := impl.ReadWord(table, []int{1}); ok || word != "" {
			t.Errorf("ReadWord(%v) = %q, %t", table, word, ok)
		}
		wantWords(t, fmt.Sprintf("Homographs(%v)", table), impl.Homographs(table, "a"), nil)
	}
	for _, word := range noWords {
		wantWords(t, fmt.Sprintf("Homographs(%q)", word), impl.Homographs(english(), word), nil)
	}
}

func TestHomographsAtTheLimit(t *testing.T) {
	// It is the cells of the word that are counted, not its letters.
	for _, c := range []struct {
		word string
		want []string
	}{
		{"abcdef", []string{"abcdef"}}, {"abcdefg", nil}, {"abcdefgh", nil},
		{"thethethethethe", []string{"thethethethethe"}}, {"andersenders", nil}, {"andersender", []string{"andersender"}},
		{"but", []string{"b", "but"}}, {"b", []string{"b", "but"}}, {"buts", []string{"buts"}},
	} {
		wantWords(t, fmt.Sprintf("Homographs(%q)", c.word), impl.Homographs(english(), c.word), c.want)
	}
}

// eachReading calls a function for all tables with words whose best pieces have
// at most six cells, with these cells.
func eachReading(f func(table []impl.Rule, word string, cells []int)) {
	eachWord(func(table []impl.Rule, word string) {
		if cells := impl.WordCells(table, word); len(cells) <= 6 {
			f(table, word, cells)
		}
	})
}

func TestP34WordsAreAmongWhatTheirCellsMayStandFor(t *testing.T) {
	eachShortWord(func(table []impl.Rule, word string, _ [][]impl.Piece) {
		for _, pieces := range [][]impl.Piece{impl.BestPieces(table, word), impl.GreedyPieces(table, word)} {
			cells := impl.PiecesCells(table, word, pieces)
			if len(cells) > 4 {
				continue
			}
			all := impl.WordsOf(table, cells)
			if !slices.Contains(all, word) {
				t.Errorf("WordsOf(%v, %v) = %q is without %q", table, cells, all, word)
			}
			for i := 1; i < len(all); i++ {
				if all[i-1] >= all[i] {
					t.Errorf("WordsOf(%v, %v) = %q", table, cells, all)
				}
			}
		}
	})
}

func TestP35LettersMayStandForThemselves(t *testing.T) {
	for _, table := range tables() {
		for _, word := range []string{"a", "b", "abc", "cccc", "bab", "zebra", "qrst", "ing", "but", "the"} {
			cells := impl.PlainCells(word)
			if !slices.Contains(impl.WordsOf(table, cells), word) {
				t.Errorf("WordsOf(%v, %v) is without %q", table, cells, word)
			}
		}
	}
}

func TestP36WordsAreReadBack(t *testing.T) {
	for _, table := range tables() {
		for _, cells := range shortLists() {
			word, ok := impl.ReadWord(table, cells)
			if !ok {
				continue
			}
			wantCells(t, fmt.Sprintf("WordCells(%v, %q)", table, word), impl.WordCells(table, word), cells)
			wantWords(t, fmt.Sprintf("Homographs(%v, %q)", table, word), impl.Homographs(table, word), []string{word})
		}
	}
}

func TestReadWord(t *testing.T) {
	for _, c := range []struct {
		table       []impl.Rule
		cells, word string
	}{
		{english(), "2346", "the"}, {english(), "12346-234", "ands"}, {english(), "135-2346-1235", "other"},
		// The cells are those of other pieces of the word, which has better ones.
		{english(), "1456-26", ""}, {english(), "1456-15", ""}, {english(), "2345-125-15", ""}, {english(), "15-1345", ""},
		// There are two words, or none.
		{english(), "12", ""}, {english(), "346", ""},
		{english(), "1456", "th"}, {english(), "1456-346", "thing"}, {english(), "24-1345-1245", "ing"},
		// A letter is never written as itself where a rule of this letter and
		// one cell applies.
		{oneLetter(), "145", "d"}, {oneLetter(), "145-145", "dd"}, {oneLetter(), "1", "a"}, {oneLetter(), "12", ""}, {oneLetter(), "14", ""},
		{oneLetter(), "2346-12346", ""}, {oneLetter(), "346", ""}, {oneLetter(), "145-12-145", "dbd"}, {oneLetter(), "145-14-145", "dcd"},
		// Of the same letters in several places the first rule has the cells.
		{samePlaces(), "2346", "ab"}, {samePlaces(), "346", ""}, {samePlaces(), "12346-346", "abab"}, {samePlaces(), "346-346", ""}, {samePlaces(), "12346-12456", ""},
	} {
		word, ok := impl.ReadWord(c.table, cellsWritten(t, c.cells))
		if word != c.word || ok != (c.word != "") {
			t.Errorf("ReadWord of %s = %q, %t, want %q", c.cells, word, ok, c.word)
		}
	}
}

func TestP37LettersAreReadAsTheyAre(t *testing.T) {
	lists := [][]int{nil}
	for n := 0; len(lists[n]) < 2; n++ {
		for cell := -1; cell <= 64; cell++ {
			lists = append(lists, joined(lists[n], []int{cell}))
		}
	}
	seq := sequence{7}
	for i := 0; i < 500; i++ {
		list := make([]int, 3+i%5)
		for j := range list {
			list[j] = impl.LetterCell(seq.next(26))
		}
		lists = append(lists, list, joined(list[1:], []int{seq.next(64)}))
	}
	for _, cells := range lists {
		letters := len(cells) >= 1 && len(cells) <= 6
		for _, cell := range cells {
			letters = letters && impl.LetterOf(cell) >= 0
		}
		want := ""
		if letters {
			want, _ = impl.PlainText(cells)
		}
		if word, ok := impl.ReadWord(nil, cells); ok != letters || word != want {
			t.Errorf("ReadWord(%v) = %q, %t, want %q", cells, word, ok, want)
		}
	}
}

func TestP38HomographsLookAlike(t *testing.T) {
	eachReading(func(table []impl.Rule, word string, cells []int) {
		same := impl.Homographs(table, word)
		if !slices.Contains(same, word) || !sort.StringsAreSorted(same) {
			t.Errorf("Homographs(%v, %q) = %q", table, word, same)
		}
		for i, other := range same {
			wantCells(t, fmt.Sprintf("WordCells(%v, %q)", table, other), impl.WordCells(table, other), cells)
			if i < 3 {
				wantWords(t, fmt.Sprintf("Homographs(%v, %q)", table, other), impl.Homographs(table, other), same)
			}
		}
	})
}

func TestP39WordsWithoutHomographsAreRead(t *testing.T) {
	alone, others := 0, 0
	eachReading(func(table []impl.Rule, word string, cells []int) {
		same := impl.Homographs(table, word)
		read, ok := impl.ReadWord(table, cells)
		if ok != (len(same) == 1) || ok && read != word || !ok && read != "" {
			t.Errorf("ReadWord(%v, %v) = %q, %t, and Homographs are %q", table, cells, read, ok, same)
		}
		if ok {
			alone++
		} else {
			others++
		}
	})
	if alone == 0 || others == 0 {
		t.Errorf("%d words are read, and %d are not", alone, others)
	}
}

func TestReadingsAreNewMemory(t *testing.T) {
	table, cells := english(), []int{3}
	first, same := impl.WordsOf(table, cells), impl.Homographs(table, "but")
	first[0], same[0] = "x", "y"
	wantWords(t, "WordsOf after a change of its result", impl.WordsOf(table, cells), []string{"b", "but"})
	wantWords(t, "Homographs after a change of its result", impl.Homographs(table, "but"), []string{"b", "but"})
	impl.ReadWord(table, cells)
	if fmt.Sprint(table) != fmt.Sprint(english()) || cells[0] != 3 {
		t.Errorf("the arguments after the calls = %v, %v", table, cells)
	}
}
