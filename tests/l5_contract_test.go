package tests

import (
	"fmt"
	"strings"
	"testing"

	"loop.example/braille/impl"
)

// letterPieces returns the pieces of one letter each of a word.
func letterPieces(word string) []impl.Piece {
	var pieces []impl.Piece
	for i := range word {
		pieces = append(pieces, impl.Piece{Rule: -1, From: i, To: i + 1})
	}
	return pieces
}

// lettersOf returns the letters of pieces, one after the other.
func lettersOf(word string, pieces []impl.Piece) string {
	letters := ""
	for _, piece := range pieces {
		letters += word[piece.From:piece.To]
	}
	return letters
}

func TestP24PiecesMakeUpWords(t *testing.T) {
	eachShortWord(func(table []impl.Rule, word string, ways [][]impl.Piece) {
		for _, pieces := range ways {
			if !impl.ValidPieces(table, word, pieces) || lettersOf(word, pieces) != word {
				t.Errorf("ValidPieces(%v, %q, %v) is false", table, word, pieces)
			}
		}
	})
	eachWord(func(table []impl.Rule, word string) {
		if !impl.ValidPieces(table, word, letterPieces(word)) {
			t.Errorf("ValidPieces(%v, %q) of its letters is false", table, word)
		}
	})
}

// changedPieces returns pieces with one change each.
func changedPieces(pieces []impl.Piece) [][]impl.Piece {
	list := [][]impl.Piece{append(pieces[:len(pieces):len(pieces)], pieces...)}
	for i := range pieces {
		before, behind := pieces[:i:i], pieces[i+1:]
		list = append(list, append(before, behind...))
		list = append(list, append(append(before, pieces[i], pieces[i]), behind...))
		for by := -2; by <= 2; by++ {
			for _, change := range []impl.Piece{{Rule: by}, {From: by}, {To: by}, {From: by, To: by}} {
				piece := impl.Piece{Rule: pieces[i].Rule + change.Rule, From: pieces[i].From + change.From, To: pieces[i].To + change.To}
				list = append(list, append(append(before, piece), behind...))
			}
		}
	}
	return list
}

func TestValidPiecesOfChangedPieces(t *testing.T) {
	for _, table := range madeTables() {
		for _, word := range []string{"a", "b", "ab", "aa", "abab", "bcd", "cabc", "aaaaaa", "then", "but"} {
			ways := piecesFrom(table, word, 0)
			valid := map[string]bool{}
			for _, pieces := range ways {
				valid[fmt.Sprint(pieces)] = true
			}
			for _, pieces := range ways {
				for _, changed := range changedPieces(pieces) {
					if impl.ValidPieces(table, word, changed) != valid[fmt.Sprint(changed)] {
						t.Errorf("ValidPieces(%v, %q, %v) is not %t", table, word, changed, valid[fmt.Sprint(changed)])
					}
				}
			}
		}
	}
}

// noPieces are pieces that do not make up the word abab by the table of
// samePlaces.
var noPieces = [][]impl.Piece{
	nil,
	{{Rule: 2, From: 0, To: 2}}, // the end is missing
	{{Rule: 2, From: 2, To: 4}}, // the beginning is missing
	{{Rule: 2, From: 2, To: 4}, {Rule: 2, From: 0, To: 2}},                                            // not in order
	{{Rule: 2, From: 0, To: 2}, {Rule: -1, From: 3, To: 4}},                                           // a letter is missing
	{{Rule: 2, From: 0, To: 2}, {Rule: 2, From: 1, To: 3}, {Rule: -1, From: 3, To: 4}},                // two letters twice
	{{Rule: 2, From: 0, To: 2}, {Rule: 2, From: 0, To: 2}, {Rule: 2, From: 2, To: 4}},                 // a piece twice
	{{Rule: 2, From: 0, To: 2}, {Rule: 2, From: 2, To: 4}, {Rule: -1, From: 4, To: 5}},                // a letter behind the end
	{{Rule: 2, From: 0, To: 2}, {Rule: 2, From: 2, To: 4}, {Rule: -1, From: 4, To: 4}},                // nothing behind the end
	{{Rule: 0, From: 0, To: 2}, {Rule: 2, From: 2, To: 4}},                                            // not the whole word
	{{Rule: 2, From: 0, To: 2}, {Rule: 1, From: 2, To: 4}},                                            // not at the beginning
	{{Rule: 2, From: 0, To: 2}, {Rule: 3, From: 2, To: 4}},                                            // not inside
	{{Rule: 4, From: 0, To: 2}, {Rule: 2, From: 2, To: 4}},                                            // not at the end
	{{Rule: 5, From: 0, To: 1}, {Rule: -1, From: 1, To: 2}, {Rule: 2, From: 2, To: 4}},                // other letters
	{{Rule: -1, From: 0, To: 2}, {Rule: 2, From: 2, To: 4}},                                           // two letters without a rule
	{{Rule: -1, From: 0, To: 4}},                                                                      // the word without a rule
	{{Rule: -1, From: 0, To: 0}, {Rule: 2, From: 0, To: 2}, {Rule: 2, From: 2, To: 4}},                // no letter
	{{Rule: -2, From: 0, To: 1}, {Rule: -1, From: 1, To: 2}, {Rule: 2, From: 2, To: 4}},               // no rule
	{{Rule: 8, From: 0, To: 2}, {Rule: 2, From: 2, To: 4}},                                            // no rule
	{{Rule: 2, From: 0, To: 1}, {Rule: -1, From: 1, To: 2}, {Rule: 2, From: 2, To: 4}},                // a part of a rule
	{{Rule: 2, From: 0, To: 3}, {Rule: -1, From: 3, To: 4}},                                           // more than a rule
	{{Rule: -1 << 63, From: 0, To: 2}, {Rule: 2, From: 2, To: 4}},                                     // far numbers
	{{Rule: 1<<63 - 1, From: 0, To: 2}, {Rule: 2, From: 2, To: 4}},                                    //
	{{Rule: 2, From: -1 << 63, To: 2}, {Rule: 2, From: 2, To: 4}},                                     //
	{{Rule: 2, From: 1<<63 - 1, To: 2}, {Rule: 2, From: 2, To: 4}},                                    //
	{{Rule: 2, From: 0, To: 1<<63 - 1}, {Rule: 2, From: 1<<63 - 1, To: 4}},                            //
	{{Rule: -1, From: 0, To: -1 << 63}, {Rule: -1, From: -1 << 63, To: 1}, {Rule: 2, From: 2, To: 4}}, //
}

func TestPiecesThatDoNotMakeUpAWord(t *testing.T) {
	table := samePlaces()
	good := []impl.Piece{{Rule: 2, From: 0, To: 2}, {Rule: 2, From: 2, To: 4}}
	if !impl.ValidPieces(table, "abab", good) {
		t.Fatal("ValidPieces is false for two pieces")
	}
	wantCells(t, "PiecesCells", impl.PiecesCells(table, "abab", good), []int{44, 44})
	for _, pieces := range noPieces {
		if impl.ValidPieces(table, "abab", pieces) {
			t.Errorf("ValidPieces(%v) is true", pieces)
		}
		wantCells(t, fmt.Sprintf("PiecesCells(%v)", pieces), impl.PiecesCells(table, "abab", pieces), nil)
	}
}

func TestPiecesOfOtherArguments(t *testing.T) {
	for _, word := range noWords {
		if len(word) > 100 {
			word = word[:100]
		}
		for _, pieces := range [][]impl.Piece{nil, letterPieces(word), {{Rule: 0, From: 0, To: len(word)}}} {
			if impl.ValidPieces(english(), word, pieces) {
				t.Errorf("ValidPieces(%q, %v) is true", word, pieces)
			}
			wantCells(t, fmt.Sprintf("PiecesCells(%q)", word), impl.PiecesCells(english(), word, pieces), nil)
		}
	}
	for _, table := range noTables() {
		for _, word := range []string{"the", "st", "x"} {
			if impl.ValidPieces(table, word, letterPieces(word)) {
				t.Errorf("ValidPieces(%v, %q) is true", table, word)
			}
			wantCells(t, fmt.Sprintf("PiecesCells(%v, %q)", table, word), impl.PiecesCells(table, word, letterPieces(word)), nil)
		}
	}
}

func TestChosenPiecesOfOtherArguments(t *testing.T) {
	for _, word := range noWords {
		if len(impl.GreedyPieces(english(), word)) != 0 || len(impl.BestPieces(english(), word)) != 0 || len(impl.WordCells(english(), word)) != 0 {
			t.Errorf("%q has pieces or cells", word)
		}
	}
	for _, table := range noTables() {
		for _, word := range []string{"the", "st", "aaaaaa", "x"} {
			if len(impl.GreedyPieces(table, word)) != 0 || len(impl.BestPieces(table, word)) != 0 || len(impl.WordCells(table, word)) != 0 {
				t.Errorf("%q has pieces or cells by %v", word, table)
			}
		}
	}
	for _, table := range madeTables() {
		long := strings.Repeat("abcd", 4)
		if lettersOf(long, impl.GreedyPieces(table, long)) != long || lettersOf(long, impl.BestPieces(table, long)) != long || len(impl.WordCells(table, long)) == 0 {
			t.Errorf("a word of 16 letters has no pieces by %v", table)
		}
	}
}

func TestP25CellsOfPiecesAreThoseOfTheirRules(t *testing.T) {
	eachShortWord(func(table []impl.Rule, word string, ways [][]impl.Piece) {
		for _, pieces := range ways {
			wantCells(t, fmt.Sprintf("PiecesCells(%v, %q, %v)", table, word, pieces), impl.PiecesCells(table, word, pieces), cellsOfPieces(table, word, pieces))
		}
	})
}

func TestP26NoPiecesHaveFewerCells(t *testing.T) {
	eachShortWord(func(table []impl.Rule, word string, ways [][]impl.Piece) {
		many := len(impl.WordCells(table, word))
		for _, pieces := range ways {
			if len(impl.PiecesCells(table, word, pieces)) < many {
				t.Errorf("WordCells(%v, %q) has %d cells, and %v have fewer", table, word, many, pieces)
			}
		}
	})
}

func TestP27GreedyPiecesArePieces(t *testing.T) {
	eachWord(func(table []impl.Rule, word string) {
		pieces := impl.GreedyPieces(table, word)
		if !impl.ValidPieces(table, word, pieces) {
			t.Errorf("GreedyPieces(%v, %q) = %v", table, word, pieces)
		}
		for _, piece := range pieces {
			if piece.Rule == -1 && len(impl.RulesAt(table, word, piece.From)) > 0 {
				t.Errorf("GreedyPieces(%v, %q) = %v has a letter at %d", table, word, pieces, piece.From)
			}
		}
	})
}

func TestP28GreedyPiecesAreAsLongAsCanBe(t *testing.T) {
	eachWord(func(table []impl.Rule, word string) {
		for _, piece := range impl.GreedyPieces(table, word) {
			for i, r := range table {
				if !applies(r, word, piece.From) || piece.Rule == -1 {
					continue
				}
				if many := piece.To - piece.From; len(r.Text) > many || len(r.Text) == many && i < piece.Rule {
					t.Errorf("GreedyPieces(%v, %q) has %v instead of the rule %d", table, word, piece, i)
				}
			}
		}
	})
}

func TestGreedyPieces(t *testing.T) {
	for _, c := range []struct {
		table []impl.Rule
		word  string
		want  []impl.Piece
	}{
		{overlapping(), "abcd", []impl.Piece{{Rule: 3, From: 0, To: 3}, {Rule: -1, From: 3, To: 4}}},
		{overlapping(), "aaaa", []impl.Piece{{Rule: 6, From: 0, To: 3}, {Rule: -1, From: 3, To: 4}}},
		{samePlaces(), "ab", []impl.Piece{{Rule: 0, From: 0, To: 2}}},
		{samePlaces(), "ababab", []impl.Piece{{Rule: 1, From: 0, To: 2}, {Rule: 2, From: 2, To: 4}, {Rule: 2, From: 4, To: 6}}},
		{samePlaces(), "b", []impl.Piece{{Rule: 5, From: 0, To: 1}}},
		{samePlaces(), "bb", []impl.Piece{{Rule: 5, From: 0, To: 1}, {Rule: 5, From: 1, To: 2}}},
		{oneLetter(), "aa", []impl.Piece{{Rule: 0, From: 0, To: 1}, {Rule: 0, From: 1, To: 2}}},
		{english(), "other", []impl.Piece{{Rule: -1, From: 0, To: 1}, {Rule: 0, From: 1, To: 4}, {Rule: -1, From: 4, To: 5}}},
	} {
		if got := impl.GreedyPieces(c.table, c.word); !samePieces(got, c.want) {
			t.Errorf("GreedyPieces(%q) = %v, want %v", c.word, got, c.want)
		}
	}
}

func TestBestPieces(t *testing.T) {
	for _, c := range []struct {
		table []impl.Rule
		word  string
		want  []impl.Piece
	}{
		// The fewest cells come first, and only then the longest piece.
		{overlapping(), "abcd", []impl.Piece{{Rule: -1, From: 0, To: 1}, {Rule: 1, From: 1, To: 4}}},
		{overlapping(), "aaaa", []impl.Piece{{Rule: 5, From: 0, To: 2}, {Rule: 5, From: 2, To: 4}}},
		{overlapping(), "aaa", []impl.Piece{{Rule: 6, From: 0, To: 3}}},
		{overlapping(), "aaaaaaa", []impl.Piece{{Rule: 7, From: 0, To: 5}, {Rule: 5, From: 5, To: 7}}},
		{overlapping(), "abc", []impl.Piece{{Rule: 3, From: 0, To: 3}}},
		// Of rules with equal letters and cells the first one is taken, wherever
		// else it could be.
		{samePlaces(), "ab", []impl.Piece{{Rule: 0, From: 0, To: 2}}},
		{samePlaces(), "ababab", []impl.Piece{{Rule: 1, From: 0, To: 2}, {Rule: 2, From: 2, To: 4}, {Rule: 2, From: 4, To: 6}}},
		// The first rule is not taken if it has more cells.
		{samePlaces(), "b", []impl.Piece{{Rule: 7, From: 0, To: 1}}},
		{samePlaces(), "bb", []impl.Piece{{Rule: -1, From: 0, To: 1}, {Rule: 6, From: 1, To: 2}}},
		// A rule of one letter and one cell comes before the letter alone, one
		// with two cells is never the best.
		{oneLetter(), "a", []impl.Piece{{Rule: -1, From: 0, To: 1}}},
		{oneLetter(), "aa", []impl.Piece{{Rule: 1, From: 0, To: 1}, {Rule: -1, From: 1, To: 2}}},
		{oneLetter(), "d", []impl.Piece{{Rule: 5, From: 0, To: 1}}},
		{oneLetter(), "dbd", []impl.Piece{{Rule: 5, From: 0, To: 1}, {Rule: 2, From: 1, To: 2}, {Rule: 5, From: 2, To: 3}}},
		{oneLetter(), "ab", []impl.Piece{{Rule: 6, From: 0, To: 2}}},
		{oneLetter(), "abc", []impl.Piece{{Rule: 1, From: 0, To: 1}, {Rule: 7, From: 1, To: 3}}},
	} {
		if got := impl.BestPieces(c.table, c.word); !samePieces(got, c.want) {
			t.Errorf("BestPieces(%q) = %v, want %v", c.word, got, c.want)
		}
	}
}

func TestBestPiecesOfAllWays(t *testing.T) {
	eachShortWord(func(table []impl.Rule, word string, ways [][]impl.Piece) {
		// The ways are in the order in which they are preferred.
		best := ways[0]
		for _, pieces := range ways {
			if len(cellsOfPieces(table, word, pieces)) < len(cellsOfPieces(table, word, best)) {
				best = pieces
			}
		}
		if got := impl.BestPieces(table, word); !samePieces(got, best) {
			t.Errorf("BestPieces(%v, %q) = %v, want %v", table, word, got, best)
		}
		wantCells(t, fmt.Sprintf("WordCells(%v, %q)", table, word), impl.WordCells(table, word), cellsOfPieces(table, word, best))
	})
}

func TestP29BestPiecesArePieces(t *testing.T) {
	eachWord(func(table []impl.Rule, word string) {
		best, greedy := impl.BestPieces(table, word), impl.GreedyPieces(table, word)
		if !impl.ValidPieces(table, word, best) {
			t.Errorf("BestPieces(%v, %q) = %v", table, word, best)
		}
		many := len(impl.PiecesCells(table, word, best))
		if many > len(impl.PiecesCells(table, word, greedy)) || many > len(word) {
			t.Errorf("BestPieces(%v, %q) = %v has %d cells", table, word, best, many)
		}
	})
}

func TestP30WithoutRulesWordsAreLetters(t *testing.T) {
	for _, table := range [][]impl.Rule{nil, {}} {
		for _, word := range words() {
			want := letterPieces(word)
			if !samePieces(impl.BestPieces(table, word), want) || !samePieces(impl.GreedyPieces(table, word), want) {
				t.Errorf("BestPieces(%q) = %v, GreedyPieces = %v", word, impl.BestPieces(table, word), impl.GreedyPieces(table, word))
			}
		}
	}
}

func TestP31WordsHaveTheCellsOfTheirBestPieces(t *testing.T) {
	eachWord(func(table []impl.Rule, word string) {
		cells := impl.WordCells(table, word)
		wantCells(t, fmt.Sprintf("WordCells(%v, %q)", table, word), cells, impl.PiecesCells(table, word, impl.BestPieces(table, word)))
		if len(cells) == 0 {
			t.Errorf("WordCells(%v, %q) has no cells", table, word)
		}
		for _, cell := range forbiddenCells() {
			if count(cells, cell) > 0 {
				t.Errorf("WordCells(%v, %q) = %v has %d", table, word, cells, cell)
			}
		}
	})
}

func TestP32FewerRulesDoNotShorten(t *testing.T) {
	eachWord(func(table []impl.Rule, word string) {
		many := len(impl.WordCells(table, word))
		for i := range table {
			if fewer := len(impl.WordCells(without(table, i), word)); fewer < many {
				t.Errorf("WordCells(%v, %q) has %d cells, and %d without the rule %d", table, word, many, fewer, i)
			}
		}
	})
}

func TestP33WithoutRulesWordsArePlain(t *testing.T) {
	for _, word := range append(words(), "abcdefghijklmnop", "qrstuvwxyz") {
		wantCells(t, fmt.Sprintf("WordCells(%q)", word), impl.WordCells(nil, word), impl.PlainCells(word))
	}
}

func TestP185CapitalWordsHaveTheirLetters(t *testing.T) {
	for _, word := range append(words(), smallLetters, strings.Repeat("z", 60)) {
		signs := 2
		if len(word) == 1 {
			signs = 1
		}
		want := joined(filled(signs, impl.SignCapital), impl.PlainCells(word))
		wantCells(t, fmt.Sprintf("PlainCells of %q in capital letters", word), impl.PlainCells(strings.ToUpper(word)), want)
	}
}

func TestP186PiecesHaveCells(t *testing.T) {
	eachWord(func(table []impl.Rule, word string) {
		pieces := impl.BestPieces(table, word)
		if len(pieces) == 0 || len(pieces) > len(impl.WordCells(table, word)) {
			t.Errorf("BestPieces(%v, %q) = %v", table, word, pieces)
		}
		begun := map[int]bool{}
		for _, piece := range pieces {
			if begun[piece.From] {
				t.Errorf("BestPieces(%v, %q) = %v has two pieces at %d", table, word, pieces, piece.From)
			}
			begun[piece.From] = true
		}
	})
}

func TestWordsAreNewMemory(t *testing.T) {
	table := english()
	pieces := impl.BestPieces(table, "dance")
	kept := fmt.Sprint(pieces)
	first, second := impl.WordCells(table, "dance"), impl.PiecesCells(table, "dance", pieces)
	if fmt.Sprint(pieces) != kept {
		t.Errorf("the pieces after the call = %v, want %s", pieces, kept)
	}
	for i := range first {
		first[i], second[i] = 63, 63
	}
	// One rule alone has all cells of the word, which are still not shared.
	alone := impl.WordCells(table, "the")
	alone[0] = 63
	alone = append(alone, 63)
	pieces[0].Rule = 5
	if fmt.Sprint(table) != fmt.Sprint(english()) || fmt.Sprint(impl.BestPieces(table, "dance")) != kept {
		t.Errorf("the table after a change of results = %v", table)
	}
	wantCells(t, "WordCells after a change of its result", impl.WordCells(table, "dance"), []int{25, 40, 17})
}
