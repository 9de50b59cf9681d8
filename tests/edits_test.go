package tests

import (
	"strings"
	"testing"

	"loop.example/braille/impl"
)

// edit returns an edit.
func edit(at, cut int, put string) impl.Edit {
	return impl.Edit{At: at, Cut: cut, Put: put}
}

// editsIn returns all edits in a text of many characters with some texts to put,
// also those that cannot be made, since they begin or end outside of it.
func editsIn(many int, puts ...string) []impl.Edit {
	var all []impl.Edit
	for at := -1; at <= many+2; at++ {
		for cut := -1; cut <= many+2; cut++ {
			for _, put := range puts {
				all = append(all, edit(at, cut, put))
			}
		}
	}
	return all
}

// madeIn returns the edits that can be made in a text of many characters.
func madeIn(many int, edits []impl.Edit) []impl.Edit {
	var made []impl.Edit
	for _, e := range edits {
		if fits(e, many) {
			made = append(made, e)
		}
	}
	return made
}

// fits reports whether an edit can be made in a text of many characters, where
// each number is compared as it is.
func fits(e impl.Edit, many int) bool {
	if many < 0 || many > 60 || e.At < 0 || e.At > many || e.Cut < 0 || e.Cut > many || e.At+e.Cut > many {
		return false
	}
	return impl.ValidText(e.Put) && many+len(e.Put)-e.Cut <= 60
}

// noEdits returns edits that cannot be made in any text of at least 3 and at
// most 57 characters, each for one reason alone.
func noEdits(many int) []impl.Edit {
	all := []impl.Edit{edit(-1, 0, ""), edit(-1, 1, "a"), edit(many+1, 0, ""), edit(many+1, 0, "a"), edit(0, -1, ""), edit(1, -1, "a"), edit(many+1, -1, ""), edit(0, many+1, ""), edit(many, 1, ""), edit(many-1, 2, "ab"), edit(0, 0, strings.Repeat("a", 61-many)), edit(many, 0, strings.Repeat("a", 61-many)), edit(1, 2, strings.Repeat("a", 63-many)), edit(0, many, strings.Repeat("a", 61))}
	for _, put := range noTexts {
		all = append(all, edit(0, 0, put), edit(many, 0, put), edit(0, many, put))
	}
	for _, n := range far {
		all = append(all, edit(n, 0, ""), edit(0, n, ""), edit(n, n, ""), edit(1, n, "a"), edit(n, 1, "a"), edit(many, n, ""), edit(n, -n, ""))
	}
	return all
}

// editTexts returns valid texts to be edited: all short ones of a few
// characters, and ones of nearly as many as there can be.
func editTexts() []string {
	all := textsOf("aB1. ", 3)
	all = append(all, "the cat", "the Dog and 3a")
	for many := 56; many <= 60; many++ {
		all = append(all, strings.Repeat("the1. ", 10)[:many])
	}
	return all
}

// randomEdit returns an edit that may be made in a text of many characters.
func randomEdit(seq *sequence, many int) impl.Edit {
	at := seq.next(many + 1)
	put := make([]byte, seq.next(5))
	for i := range put {
		put[i] = characters[seq.next(len(characters))]
	}
	return edit(at, seq.next(min(many-at, 9)+1), string(put))
}

// eachEdit calls a function for valid texts, with edits that can be made in them.
func eachEdit(f func(s string, e impl.Edit)) {
	seq := sequence{121}
	for _, s := range editTexts() {
		if len(s) <= 7 {
			for _, e := range madeIn(len(s), editsIn(len(s), "", "b", " ", "Xy", "1.a")) {
				f(s, e)
			}
			f(s, edit(0, len(s), strings.Repeat("b", 60)))
			f(s, edit(len(s), 0, strings.Repeat("b", 60-len(s))))
			f(s, edit(0, 0, strings.Repeat("b", 60-len(s))))
		}
		for range 40 {
			if e := randomEdit(&seq, len(s)); fits(e, len(s)) {
				f(s, e)
			}
		}
	}
}

// edited returns a text after an edit, character by character.
func edited(s string, e impl.Edit) string {
	var text strings.Builder
	for i := 0; i <= len(s); i++ {
		if i == e.At {
			text.WriteString(e.Put)
		}
		if i < len(s) && (i < e.At || i >= e.At+e.Cut) {
			text.WriteByte(s[i])
		}
	}
	return text.String()
}

// moved returns where a mark is after an edit that puts first, behind what it
// cuts, and then cuts from the end on, character by character.
func moved(mark int, e impl.Edit) int {
	if mark >= e.At+e.Cut && mark > e.At {
		mark += len(e.Put)
	}
	for at := e.At + e.Cut; at > e.At; at-- {
		if mark >= at {
			mark--
		}
	}
	return mark
}

// comesFirst reports whether all that an edit cuts, and the place where it puts,
// is before all that another one does. Places and characters are counted
// together: the place before the character i is 2i, and the character 2i+1.
func comesFirst(e, other impl.Edit) bool {
	last := 2 * e.At
	if e.Cut > 0 {
		last = 2*(e.At+e.Cut-1) + 1
	}
	return last < 2*other.At
}

// shifted returns an edit after another one, and whether they are apart.
func shifted(e, over impl.Edit) (impl.Edit, bool) {
	if comesFirst(e, over) {
		return e, true
	}
	if comesFirst(over, e) {
		return edit(e.At-over.Cut+len(over.Put), e.Cut, e.Put), true
	}
	return impl.Edit{}, false
}

// eachPair calls a function with pairs of edits that can be made in a text.
func eachPair(f func(s string, e, other impl.Edit)) {
	for many := range 6 {
		s := "aB1. "[:many]
		edits := madeIn(many, editsIn(many, "", "x", "yz"))
		for _, e := range edits {
			for _, other := range edits {
				f(s, e, other)
			}
		}
	}
	seq := sequence{122}
	for range 20000 {
		s := strings.Repeat("the1. ", 10)[:seq.next(61)]
		e, other := randomEdit(&seq, len(s)), randomEdit(&seq, len(s))
		if fits(e, len(s)) && fits(other, len(s)) {
			f(s, e, other)
		}
	}
}

// wantApplied fails the test if a text after an edit is not as it must be.
func wantApplied(t *testing.T, s string, e impl.Edit, want string) {
	t.Helper()
	if got, ok := impl.ApplyEdit(s, e); !ok || got != want {
		t.Errorf("ApplyEdit(%q, %v) = %q, %t, want %q", s, e, got, ok, want)
	}
}

// wantNoEdit fails the test if an edit can be made in a text.
func wantNoEdit(t *testing.T, s string, e impl.Edit) {
	t.Helper()
	if got, ok := impl.ApplyEdit(s, e); ok || got != "" {
		t.Errorf("ApplyEdit(%.100q, %.100v) = %.100q, %t", s, e, got, ok)
	}
	if got, ok := impl.InvertEdit(s, e); ok || got != (impl.Edit{}) {
		t.Errorf("InvertEdit(%.100q, %.100v) = %.100v, %t", s, e, got, ok)
	}
}

// wantNoShift fails the test if an edit is made after another one.
func wantNoShift(t *testing.T, e, over impl.Edit, many int) {
	t.Helper()
	if got, ok := impl.ShiftEdit(e, over, many); ok || got != (impl.Edit{}) {
		t.Errorf("ShiftEdit(%.100v, %.100v, %d) = %.100v, %t", e, over, many, got, ok)
	}
}
