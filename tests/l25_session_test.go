package tests

import (
	"fmt"
	"strings"
	"testing"

	"loop.example/braille/impl"
)

func TestMaxSession(t *testing.T) {
	if impl.MaxSession != 20 {
		t.Errorf("MaxSession is %d", impl.MaxSession)
	}
}

func TestRunSession(t *testing.T) {
	for _, c := range []struct{ line, answer string }{
		{"cells the", "2346"}, {"cells the and", "2346-0-12346"}, {"cells The", "6-2345-125-15"}, {"cells", ""}, {"cells ", ""}, {"cells  ", "0"}, {"cells  a", "0-1"}, {"cells a ", "1-0"}, {"cells _", "no"}, {"cells the\n", "no"}, {"cells é", "no"}, {"cells 1", "3456-1"},
		{"plain the", "2345-125-15"}, {"plain", ""}, {"plain ", ""}, {"plain  ", "0"}, {"plain _", "no"}, {"plain 1a", "3456-1-56-1"},
		{"read 2346", "the"}, {"read 2346-0-12346", "the and"}, {"read", ""}, {"read ", ""}, {"read  ", "no"}, {"read 0", " "}, {"read 12", "no"}, {"read 2345-125-15", "no"}, {"read the", "no"}, {"read  2346", "no"}, {"read 2346 ", "no"}, {"read 3456-1", "1"}, {"read 6-6-1-12", "AB"},
		{"word thing", "1456-346"}, {"word but", "12"}, {"word", "no"}, {"word ", "no"}, {"word The", "no"}, {"word the and", "no"}, {"word  the", "no"}, {"word the ", "no"}, {"word 1", "no"}, {"word " + longestWord, "12346-2346-12346-2346-12346-1"}, {"word " + longestWord + "b", "no"},
		{"same but", "b,but"}, {"same b", "b,but"}, {"same the", "the"}, {"same", "no"}, {"same ", "no"}, {"same The", "no"}, {"same the but", "no"}, {"same abcdef", "abcdef"}, {"same abcdefg", "no"}, {"same 12", "no"},
		{"ascii 1-12", "AB"}, {"ascii", ""}, {"ascii ", ""}, {"ascii 0", " "}, {"ascii 0-0-1", "  A"}, {"ascii 21", "no"}, {"ascii AB", "no"}, {"ascii 1-", "no"}, {"ascii 1256", "\\"}, {"ascii 5", "\""},
		{"", "what"}, {" ", "what"}, {" cells the", "what"}, {"help", "what"}, {"what", "what"}, {"no", "what"}, {"Cells the", "what"}, {"cell the", "what"}, {"cells\tthe", "what"}, {"cellsthe", "what"}, {"plain\n", "what"}, {"same,but", "what"},
	} {
		wantSession(t, english(), []string{c.line}, c.answer+"\n")
		wantSession(t, english(), []string{"help", c.line, "word but"}, "what\n"+c.answer+"\n12\n")
	}
	for _, command := range noCommands {
		wantSession(t, english(), []string{command, command + " the", command + " 1"}, "what\nwhat\nwhat\n")
	}
}

func TestAnswersByOtherTables(t *testing.T) {
	wantSession(t, nil, []string{"cells the but", "read 2345-125-15", "word but", "same but"}, "2345-125-15-0-12-136-2345\nthe\n12-136-2345\nbut\n")
	wantSession(t, lookalikes(), []string{"same a", "same ab", "word abba", "read 1", "plain ab"}, "a,ab,b,ba\na,ab,b,ba\n1-1\nno\n1-12\n")
	wantSession(t, oneLetter(), []string{"word a", "same bb", "read 145-145", "cells ab c"}, "1\nbb,cb\ndd\n1-12-0-14\n")
}

func TestSessionsOfAllKinds(t *testing.T) {
	for _, table := range sessionTables() {
		for _, lines := range sessions() {
			want := ""
			for _, line := range lines {
				want += answered(table, line) + "\n"
			}
			wantSession(t, table, lines, want)
		}
	}
}

func TestSessionsThatAreNotAnswered(t *testing.T) {
	for many := 18; many <= 23; many++ {
		lines := make([]string, many)
		for i := range lines {
			lines[i] = "word but"
		}
		want := ""
		if many <= 20 {
			want = strings.Repeat("12\n", many)
		}
		wantSession(t, english(), lines, want)
		if many > 20 {
			wantSession(t, english(), make([]string, many), "")
			wantSession(t, nil, lines, "")
		}
	}
	wantSession(t, english(), make([]string, 100000), "")
	for _, table := range noTables() {
		for _, lines := range [][]string{nil, {""}, {"help"}, {"plain the"}, {"cells the", "word st"}, {"ascii 1"}} {
			wantSession(t, table, lines, "")
		}
	}
}

func TestAnswersOfTheGreatestLength(t *testing.T) {
	cells := strings.TrimSuffix(strings.Repeat("123456-", 200), "-")
	wantSession(t, nil, []string{"ascii " + cells, "ascii " + cells + "-1", "read " + cells}, strings.Repeat("=", 200)+"\nno\nno\n")
	text := strings.Repeat("A1", 30)
	dots := strings.TrimSuffix(strings.Repeat("6-1-3456-1-", 30), "-")
	wantSession(t, english(), []string{"cells " + text, "plain " + text, "read " + dots, "cells " + text + "A", "plain " + text + "A", "read " + dots + "-6-1"}, dots+"\n"+dots+"\n"+text+"\nno\nno\nno\n")
}

func TestP174EachLineHasAnAnswer(t *testing.T) {
	for _, table := range sessionTables() {
		for _, lines := range sessions() {
			out := impl.RunSession(table, lines)
			if strings.Count(out, "\n") != len(lines) || out != "" && !strings.HasSuffix(out, "\n") {
				t.Errorf("RunSession(%v, %.500q) = %.500q", table, lines, out)
			}
		}
	}
}

func TestP175SessionsAnswerLineByLine(t *testing.T) {
	for _, table := range sessionTables() {
		for _, lines := range sessions() {
			out := impl.RunSession(table, lines)
			each := ""
			for i := range lines {
				if first := impl.RunSession(table, lines[:i]); first != each || !strings.HasPrefix(out, first) {
					t.Errorf("RunSession(%v, %.500q) = %.500q, and all is %.500q", table, lines[:i], first, out)
				}
				each += impl.RunSession(table, lines[i:i+1])
			}
			if out != each {
				t.Errorf("RunSession(%v, %.500q) = %.500q, and line by line %.500q", table, lines, out, each)
			}
		}
	}
}

func TestP176SessionsReadWhatTheyWrite(t *testing.T) {
	read, others := 0, 0
	eachText(func(table []impl.Rule, text string) {
		cells := impl.RunSession(table, []string{"cells " + text})
		want := text + "\n"
		if !impl.SafeTable(table, impl.WordsIn(text)) {
			want = "no\n"
			others++
		} else {
			read++
		}
		wantSession(t, table, []string{"read " + strings.TrimSuffix(cells, "\n")}, want)
	})
	if read < 1000 || others < 1000 {
		t.Errorf("%d texts are read, and %d are not", read, others)
	}
}

func TestP177PrintedTextsAreReadBack(t *testing.T) {
	read, paged := 0, 0
	eachFilling(func(c filling) {
		lines := impl.FillLines(c.words, c.width)
		for _, height := range []int{2, 3, 7, 30} {
			title := []int{7, 0, 5, 6, 0, 12, 63, 1}[:min(c.width-6, 8)]
			pages := impl.PagesOf(lines, title, c.width, height)
			text := impl.PrintOf(pages)
			if len(pages) > 20 {
				continue
			}
			printed, ok := impl.ReadPrint(text)
			body, fine := impl.BodyOf(printed, title, c.width, height)
			words := impl.WordsOfLines(body, c.width)
			if !ok || !fine || fmt.Sprint(words) != fmt.Sprint(c.words) {
				t.Errorf("the words of %q by %v on lines of %d cells are read back as %v", c.text, c.table, c.width, words)
				continue
			}
			back, ok := impl.ReadText(c.table, spacedOut(words))
			if !ok || back != c.text || !impl.SafeTable(c.table, impl.WordsIn(c.text)) {
				t.Errorf("%q by %v on lines of %d cells is read back as %q, %t", c.text, c.table, c.width, back, ok)
			}
			read++
			if len(pages) > 1 {
				paged++
			}
		}
	})
	if read < 1000 || paged < 1000 {
		t.Errorf("%d texts are read back, %d of them from several pages", read, paged)
	}
}

func TestP178EvenLinesAreReadBackToo(t *testing.T) {
	read, differ := 0, 0
	eachFilling(func(c filling) {
		lines := impl.BestLines(c.words, c.width)
		words := impl.WordsOfLines(lines, c.width)
		back, ok := impl.ReadText(c.table, spacedOut(words))
		if !ok || back != c.text {
			t.Errorf("%q by %v on lines of %d cells is read back as %q, %t", c.text, c.table, c.width, back, ok)
		}
		read++
		if fmt.Sprint(lines) != fmt.Sprint(impl.FillLines(c.words, c.width)) {
			differ++
		}
	})
	if read < 1000 || differ < 100 {
		t.Errorf("%d texts are read back, %d of them from lines that are not full", read, differ)
	}
}

func TestSessionsKeepTheirArguments(t *testing.T) {
	table, lines := english(), []string{"cells the", "read 2346", "same but", "help"}
	for range 2 {
		wantSession(t, table, lines, "2346\nthe\nb,but\nwhat\n")
	}
	if !sameTable(table, english()) || !sameTexts(lines, []string{"cells the", "read 2346", "same but", "help"}) {
		t.Errorf("the arguments after the calls = %v, %q", table, lines)
	}
}
