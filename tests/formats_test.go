package tests

import (
	"regexp"
	"strings"
	"testing"

	"loop.example/braille/impl"
)

// placeNames are the names of all places of a rule, in order.
var placeNames = []string{"any", "word", "begin", "middle", "end"}

// ruleText finds the parts of the text of a rule, whose cells may still be none.
var ruleText = regexp.MustCompile(`^(any|word|begin|middle|end) ([a-z]+) (0|[1-6]+)(-(0|[1-6]+))?$`)

// tableText returns the text of a valid table.
func tableText(table []impl.Rule) string {
	text := ""
	for _, r := range table {
		var dots []string
		for _, cell := range r.Cells {
			dots = append(dots, textOfDots(impl.DotsOf(cell)))
		}
		text += strings.Join([]string{placeNames[r.Place], r.Text, strings.Join(dots, "-")}, " ") + "\n"
	}
	return text
}

// cellWritten returns the cell whose dots are written in a text, ascending, and
// -1 for other texts.
func cellWritten(dots string) int {
	if dots == "0" {
		return 0
	}
	cell := 0
	for i := range dots {
		if i > 0 && dots[i] <= dots[i-1] {
			return -1
		}
		cell += 1 << (dots[i] - '1')
	}
	return cell
}

// tableFound returns the table of a text, and whether there is one, by finding
// the parts of each line.
func tableFound(text string) ([]impl.Rule, bool) {
	if text == "" {
		return nil, true
	}
	if !strings.HasSuffix(text, "\n") {
		return nil, false
	}
	var table []impl.Rule
	for _, line := range strings.Split(strings.TrimSuffix(text, "\n"), "\n") {
		parts := ruleText.FindStringSubmatch(line)
		if parts == nil {
			return nil, false
		}
		r := rule(parts[2], 0, cellWritten(parts[3]))
		for placeNames[r.Place] != parts[1] {
			r.Place++
		}
		if parts[4] != "" {
			r.Cells = append(r.Cells, cellWritten(parts[5]))
		}
		table = append(table, r)
	}
	if !impl.ValidTable(table) {
		return nil, false
	}
	return table, true
}

// sameTable reports whether two tables have the same rules.
func sameTable(a, b []impl.Rule) bool {
	if len(a) != len(b) {
		return false
	}
	for i := range a {
		if a[i].Text != b[i].Text || a[i].Place != b[i].Place || !equal(a[i].Cells, b[i].Cells) {
			return false
		}
	}
	return true
}

// wantTable fails the test if a text is not read as a table.
func wantTable(t *testing.T, text string, want []impl.Rule) {
	t.Helper()
	if got, ok := impl.ParseTable(text); !ok || !sameTable(got, want) {
		t.Errorf("ParseTable(%.300q) = %v, %t, want %v", text, got, ok, want)
	}
}

// wantNoTable fails the test if a text is read as a table.
func wantNoTable(t *testing.T, text string) {
	t.Helper()
	if got, ok := impl.ParseTable(text); ok || len(got) > 0 {
		t.Errorf("ParseTable(%.300q) = %v, %t", text, got, ok)
	}
}

// changedTexts returns texts that differ from another one in one character, for
// each place in it.
func changedTexts(seq *sequence, text string) []string {
	const others = " \n-0123456aezAny\x00"
	var all []string
	for at := range len(text) + 1 {
		i := seq.next(len(others))
		all = append(all, text[:at]+others[i:i+1]+text[at:])
		if at < len(text) {
			all = append(all, text[:at]+text[at+1:], text[:at]+others[i:i+1]+text[at+1:])
		}
	}
	return all
}

// noTableTexts are texts of no table, each for one reason alone.
var noTableTexts = []string{
	// A line is not ended, or empty.
	"any the 2346", "any the 2346\nany and 12346", "\n", "any the 2346\n\n", "\nany the 2346\n", "any the 2346\n\nany and 12346\n", "any the 2346\n ", "any the 2346\r\n", "any the 2346\x0c\n",
	// There are too many spaces, or too few.
	"any  the 2346\n", "any the  2346\n", " any the 2346\n", "any the 2346 \n", "anythe 2346\n", "any the2346\n", "anythe2346\n", "any\tthe\t2346\n", "any the\n2346\n", " \n", "  \n", "   \n", "any \n", "any  \n", "any the\n", "any the \n", "any  2346\n", " the 2346\n", "the 2346\n",
	// There is no such place.
	"some the 2346\n", "Any the 2346\n", "ANY the 2346\n", "an the 2346\n", "anyy the 2346\n", "ending the 2346\n", "0 the 2346\n", "1 the 2346\n", "words the 2346\n",
	// The letters are too many, or not small ones.
	"any thethet 2346\n", "any The 2346\n", "any THE 2346\n", "any th1 2346\n", "any th- 2346\n", "any é 2346\n",
	// The cells are no valid ones of a rule, or not written as they must be.
	"any the 0\n", "any the 256\n", "any the 2\n", "any the 3456\n", "any the 6\n", "any the 56\n", "any the 2346-0\n", "any the 0-2346\n", "any the 2346-36\n", "any the 2346-1-2345\n", "any the 4362\n", "any the 22346\n", "any the 2347\n", "any the 1234567\n", "any the -\n", "any the 2346-\n", "any the -2346\n", "any the 2346--1\n", "any the 02346\n", "any the +1\n", "any the 1,1\n", "any the 1 1\n", "any the x\n", "any the 46\x00\n",
	// Two rules have the same text and place.
	"any the 2346\nany the 2346\n", "any the 2346\nany the 1\n", "end ance 46-15\nany the 2346\nend ance 1\n",
}

// wordLists returns lists of words.
func wordLists() [][]string {
	all := words()
	lists := [][]string{nil, {}}
	for _, word := range all {
		lists = append(lists, []string{word})
	}
	seq := sequence{141}
	for i := range 300 {
		var list []string
		for range 2 + i%6 {
			list = append(list, all[seq.next(len(all))])
		}
		lists = append(lists, list)
	}
	return lists
}
