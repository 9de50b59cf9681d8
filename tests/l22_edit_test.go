package tests

import (
	"strings"
	"testing"

	"loop.example/braille/impl"
)

// noLengths are numbers of characters that no text has.
var noLengths = append([]int{-1, -2, -60, 61, 62, 120}, far...)

func TestApplyEditAndInvertEdit(t *testing.T) {
	for _, c := range []struct {
		text string
		e    impl.Edit
		want string
		back impl.Edit
	}{
		{"", edit(0, 0, ""), "", edit(0, 0, "")}, {"", edit(0, 0, "a"), "a", edit(0, 1, "")}, {"a", edit(0, 1, ""), "", edit(0, 0, "a")}, {"a", edit(0, 1, "a"), "a", edit(0, 1, "a")},
		{"abc", edit(0, 0, "x"), "xabc", edit(0, 1, "")}, {"abc", edit(3, 0, "x"), "abcx", edit(3, 1, "")}, {"abc", edit(1, 1, ""), "ac", edit(1, 0, "b")}, {"abc", edit(1, 2, "XYZ"), "aXYZ", edit(1, 3, "bc")},
		{"the cat", edit(4, 3, "dog"), "the dog", edit(4, 3, "cat")}, {"the cat", edit(3, 1, ""), "thecat", edit(3, 0, " ")}, {"the cat", edit(7, 0, "s."), "the cats.", edit(7, 2, "")},
	} {
		wantApplied(t, c.text, c.e, c.want)
		if back, ok := impl.InvertEdit(c.text, c.e); !ok || back != c.back {
			t.Errorf("InvertEdit(%q, %v) = %v, %t, want %v", c.text, c.e, back, ok, c.back)
		}
	}
}

func TestEditsOfAllKinds(t *testing.T) {
	made, others := 0, 0
	for _, s := range editTexts() {
		for _, e := range editsIn(min(len(s), 9), "", "b", "1.a", "_", "\n") {
			if !fits(e, len(s)) {
				others++
				wantNoEdit(t, s, e)
				continue
			}
			made++
			wantApplied(t, s, e, edited(s, e))
			back, ok := impl.InvertEdit(s, e)
			if want := edit(e.At, len(e.Put), s[e.At:e.At+e.Cut]); !ok || back != want {
				t.Errorf("InvertEdit(%q, %v) = %v, %t, want %v", s, e, back, ok, want)
			}
		}
	}
	if made < 1000 || others < 1000 {
		t.Errorf("%d edits can be made, and %d cannot", made, others)
	}
}

func TestEditsThatCannotBeMade(t *testing.T) {
	for _, s := range []string{"the", "the cat", strings.Repeat("a", 57)} {
		for _, e := range noEdits(len(s)) {
			wantNoEdit(t, s, e)
			for _, mark := range []int{0, 1, len(s)} {
				if got := impl.MoveMark(mark, e, len(s)); got != -1 {
					t.Errorf("MoveMark(%d, %.100v, %d) = %d", mark, e, len(s), got)
				}
			}
			for _, good := range []impl.Edit{edit(0, 1, "x"), edit(len(s)-1, 1, ""), edit(len(s), 0, "")} {
				wantNoShift(t, e, good, len(s))
				wantNoShift(t, good, e, len(s))
			}
		}
	}
	for _, s := range noTexts {
		for _, e := range []impl.Edit{edit(0, 0, ""), edit(0, 1, ""), edit(0, len(s), ""), edit(len(s), 0, ""), edit(0, 0, "a"), edit(0, len(s), "a")} {
			wantNoEdit(t, s, e)
		}
	}
}

func TestEditsAtTheLimit(t *testing.T) {
	for many := 0; many <= 62; many++ {
		s := strings.Repeat("a", many)
		for put := 0; put <= 62; put++ {
			for _, cut := range []int{0, 1, 2, many - 1, many} {
				if cut < 0 || cut > many {
					continue
				}
				e := edit(many-cut, cut, strings.Repeat("b", put))
				want := many <= 60 && put <= 60 && many-cut+put <= 60
				got, ok := impl.ApplyEdit(s, e)
				if ok != want || ok && got != s[:many-cut]+e.Put {
					t.Errorf("ApplyEdit(%d letters, %v) = %q, %t", many, e, got, ok)
				}
				back, ok := impl.InvertEdit(s, e)
				if ok != want || ok && back != edit(many-cut, put, s[:cut]) {
					t.Errorf("InvertEdit(%d letters, %v) = %v, %t", many, e, back, ok)
				}
				mark := impl.MoveMark(many, e, many)
				if !want && mark != -1 || want && mark != moved(many, e) {
					t.Errorf("MoveMark(%d, %v, %d) = %d", many, e, many, mark)
				}
				if _, ok := impl.ShiftEdit(e, edit(0, 0, ""), many); ok != (want && many > cut) {
					t.Errorf("ShiftEdit(%v) in %d letters is %t", e, many, ok)
				}
			}
		}
	}
}

func TestMoveMark(t *testing.T) {
	for _, c := range []struct {
		e     impl.Edit
		marks []int
	}{
		{edit(0, 0, ""), []int{0, 1, 2, 3, 4}}, {edit(4, 0, ""), []int{0, 1, 2, 3, 4}}, {edit(2, 0, "x"), []int{0, 1, 2, 4, 5}}, {edit(0, 0, "xyz"), []int{0, 4, 5, 6, 7}}, {edit(4, 0, "xyz"), []int{0, 1, 2, 3, 4}},
		{edit(1, 2, ""), []int{0, 1, 1, 1, 2}}, {edit(1, 2, "x"), []int{0, 1, 1, 2, 3}}, {edit(1, 2, "xyz"), []int{0, 1, 1, 4, 5}}, {edit(0, 4, ""), []int{0, 0, 0, 0, 0}}, {edit(0, 4, "xyz"), []int{0, 0, 0, 0, 3}}, {edit(3, 1, "x"), []int{0, 1, 2, 3, 4}}, {edit(1, 1, "x"), []int{0, 1, 2, 3, 4}},
	} {
		for mark, want := range c.marks {
			if got := impl.MoveMark(mark, c.e, 4); got != want {
				t.Errorf("MoveMark(%d, %v, 4) = %d, want %d", mark, c.e, got, want)
			}
		}
	}
	for many := range 8 {
		for _, e := range editsIn(many, "", "x", "yz", "abcdefg", "_") {
			for mark := -2; mark <= many+2; mark++ {
				want := -1
				if mark >= 0 && mark <= many && fits(e, many) {
					want = moved(mark, e)
				}
				if got := impl.MoveMark(mark, e, many); got != want {
					t.Errorf("MoveMark(%d, %v, %d) = %d, want %d", mark, e, many, got, want)
				}
			}
		}
	}
}

func TestMarksAndShiftsInOtherTexts(t *testing.T) {
	for _, many := range noLengths {
		for _, e := range []impl.Edit{edit(0, 0, ""), edit(0, 1, ""), edit(0, 0, "a"), edit(1, 1, "")} {
			for _, mark := range []int{0, 1, 60, many} {
				if got := impl.MoveMark(mark, e, many); got != -1 {
					t.Errorf("MoveMark(%d, %v, %d) = %d", mark, e, many, got)
				}
			}
			wantNoShift(t, e, edit(4, 1, ""), many)
			wantNoShift(t, edit(4, 1, ""), e, many)
		}
	}
	for _, mark := range append([]int{-1, -2, 8, 9, 60}, far...) {
		for _, e := range []impl.Edit{edit(0, 0, ""), edit(0, 7, ""), edit(7, 0, "a")} {
			if got := impl.MoveMark(mark, e, 7); got != -1 {
				t.Errorf("MoveMark(%d, %v, 7) = %d", mark, e, got)
			}
		}
	}
	// The edit fits in longer texts alone, or in shorter ones alone.
	if impl.MoveMark(0, edit(2, 1, ""), 2) != -1 || impl.MoveMark(0, edit(2, 1, ""), 3) != 0 || impl.MoveMark(0, edit(0, 0, strings.Repeat("a", 50)), 10) != 0 || impl.MoveMark(0, edit(0, 0, strings.Repeat("a", 50)), 11) != -1 {
		t.Error("MoveMark does not tell whether an edit can be made")
	}
}

func TestShiftEdit(t *testing.T) {
	for _, c := range []struct {
		e, over impl.Edit
		at      int
	}{
		{edit(0, 1, "xyz"), edit(2, 1, ""), 0}, {edit(2, 1, ""), edit(0, 1, "xyz"), 4}, {edit(2, 1, ""), edit(0, 1, ""), 1}, {edit(2, 1, ""), edit(0, 2, ""), 0}, {edit(4, 0, "x"), edit(0, 4, ""), 0}, {edit(0, 4, ""), edit(4, 0, "x"), 0},
		{edit(1, 0, "x"), edit(0, 0, "y"), 2}, {edit(0, 0, "y"), edit(1, 0, "x"), 0}, {edit(1, 1, "x"), edit(2, 1, "y"), 1}, {edit(2, 1, "y"), edit(1, 1, "x"), 2}, {edit(3, 0, ""), edit(1, 2, "abc"), 4}, {edit(3, 1, ""), edit(2, 0, "abc"), 6},
		// Nothing is put or cut, but there is a place where this is done.
		{edit(1, 0, ""), edit(2, 0, ""), 1}, {edit(2, 0, ""), edit(1, 0, ""), 2},
	} {
		e, ok := impl.ShiftEdit(c.e, c.over, 4)
		if want := edit(c.at, c.e.Cut, c.e.Put); !ok || e != want {
			t.Errorf("ShiftEdit(%v, %v, 4) = %v, %t, want %v", c.e, c.over, e, ok, want)
		}
	}
	for _, c := range [][2]impl.Edit{
		// Both begin at the same place, or one begins inside of the other one.
		{edit(0, 0, ""), edit(0, 0, "")}, {edit(2, 0, "x"), edit(2, 0, "y")}, {edit(2, 0, "x"), edit(2, 1, "")}, {edit(2, 1, ""), edit(2, 1, "")}, {edit(2, 1, ""), edit(2, 2, "")}, {edit(4, 0, "x"), edit(4, 0, "x")},
		{edit(0, 4, ""), edit(1, 1, "")}, {edit(0, 4, ""), edit(2, 0, "x")}, {edit(0, 2, ""), edit(1, 2, "")}, {edit(0, 4, ""), edit(3, 1, "")}, {edit(1, 2, "x"), edit(2, 0, "")}, {edit(1, 3, ""), edit(3, 0, "a")},
	} {
		wantNoShift(t, c[0], c[1], 4)
		wantNoShift(t, c[1], c[0], 4)
	}
}

func TestShiftsOfAllKinds(t *testing.T) {
	apart, others := 0, 0
	eachPair(func(s string, e, other impl.Edit) {
		want, wantOk := shifted(e, other)
		got, ok := impl.ShiftEdit(e, other, len(s))
		if ok != wantOk || got != want {
			t.Errorf("ShiftEdit(%v, %v, %d) = %v, %t, want %v, %t", e, other, len(s), got, ok, want, wantOk)
		}
		if ok {
			apart++
		} else {
			others++
		}
	})
	if apart < 1000 || others < 1000 {
		t.Errorf("%d pairs are apart, and %d are not", apart, others)
	}
	for many := range 5 {
		good := madeIn(many, editsIn(many, "", "x"))
		for _, e := range editsIn(many, "", "_") {
			if fits(e, many) {
				continue
			}
			for _, other := range good {
				wantNoShift(t, e, other, many)
				wantNoShift(t, other, e, many)
			}
		}
	}
}

func TestP153EditsKeepWhatTheyDoNotCut(t *testing.T) {
	eachEdit(func(s string, e impl.Edit) {
		wantApplied(t, s, e, s[:e.At]+e.Put+s[e.At+e.Cut:])
	})
}

func TestP154EditsCanBeTakenBack(t *testing.T) {
	eachEdit(func(s string, e impl.Edit) {
		after, _ := impl.ApplyEdit(s, e)
		back, ok := impl.InvertEdit(s, e)
		if !ok {
			t.Errorf("InvertEdit(%q, %v) is false", s, e)
		}
		wantApplied(t, after, back, s)
		if again, ok := impl.InvertEdit(after, back); !ok || again != e {
			t.Errorf("InvertEdit(%q, %v) = %v, %t, want %v", after, back, again, ok, e)
		}
	})
}

func TestP155MarksStayInOrder(t *testing.T) {
	eachEdit(func(s string, e impl.Edit) {
		after, _ := impl.ApplyEdit(s, e)
		last := 0
		for mark := 0; mark <= len(s); mark++ {
			got := impl.MoveMark(mark, e, len(s))
			if got < last || got > len(after) {
				t.Errorf("MoveMark(%d, %v, %d) = %d behind %d", mark, e, len(s), got, last)
			}
			last = got
		}
	})
}

func TestP156MarksStayBeforeTheSameText(t *testing.T) {
	before, behind := 0, 0
	eachEdit(func(s string, e impl.Edit) {
		after, _ := impl.ApplyEdit(s, e)
		for mark := 0; mark <= len(s); mark++ {
			got := impl.MoveMark(mark, e, len(s))
			if got < 0 || got > len(after) {
				t.Errorf("MoveMark(%d, %v, %d) = %d", mark, e, len(s), got)
				continue
			}
			if mark >= e.At+e.Cut && mark > e.At {
				behind++
				if after[got:] != s[mark:] {
					t.Errorf("MoveMark(%d, %v, %d) = %d, with %q behind it", mark, e, len(s), got, after[got:])
				}
			}
			if mark <= e.At {
				before++
				if after[:got] != s[:mark] {
					t.Errorf("MoveMark(%d, %v, %d) = %d, with %q before it", mark, e, len(s), got, after[:got])
				}
			}
		}
	})
	if before < 1000 || behind < 1000 {
		t.Errorf("%d marks are before an edit, and %d behind it", before, behind)
	}
}

func TestP157MarksOutsideOfEditsComeBack(t *testing.T) {
	eachEdit(func(s string, e impl.Edit) {
		after, _ := impl.ApplyEdit(s, e)
		back, _ := impl.InvertEdit(s, e)
		for mark := 0; mark <= len(s); mark++ {
			if mark > e.At && mark <= e.At+e.Cut {
				continue
			}
			there := impl.MoveMark(mark, e, len(s))
			if got := impl.MoveMark(there, back, len(after)); got != mark {
				t.Errorf("MoveMark(%d, %v, %d) = %d, and MoveMark of it by %v = %d", mark, e, len(s), there, back, got)
			}
		}
	})
}

func TestP158EditsApartCanBeMadeInAnyOrder(t *testing.T) {
	made, tooLong := 0, 0
	eachPair(func(s string, e, other impl.Edit) {
		after, ok := impl.ShiftEdit(e, other, len(s))
		otherAfter, fine := impl.ShiftEdit(other, e, len(s))
		if ok != fine {
			t.Errorf("ShiftEdit(%v, %v, %d) is %t, and the other way %t", e, other, len(s), ok, fine)
		}
		if !ok || !fine {
			return
		}
		one, _ := impl.ApplyEdit(s, e)
		two, _ := impl.ApplyEdit(s, other)
		both, first := impl.ApplyEdit(one, otherAfter)
		same, second := impl.ApplyEdit(two, after)
		if long := len(s)+len(e.Put)-e.Cut+len(other.Put)-other.Cut > 60; first == long || second == long || both != same {
			t.Errorf("%v and %v make %q of %q, and in the other order %q", e, other, both, s, same)
		}
		if first {
			made++
		} else {
			tooLong++
		}
	})
	if made < 1000 || tooLong < 10 {
		t.Errorf("%d pairs can be made, and %d make the text too long", made, tooLong)
	}
}

func TestP159TheFirstOneOfTwoEditsStays(t *testing.T) {
	changed := 0
	eachPair(func(s string, e, other impl.Edit) {
		after, ok := impl.ShiftEdit(e, other, len(s))
		otherAfter, _ := impl.ShiftEdit(other, e, len(s))
		if !ok {
			return
		}
		if edit(e.At, after.Cut, after.Put) != e || edit(other.At, otherAfter.Cut, otherAfter.Put) != other {
			t.Errorf("ShiftEdit of %v and %v = %v and %v", e, other, after, otherAfter)
		}
		first, second := after.At != e.At, otherAfter.At != other.At
		if first && second || first && e.At < other.At || second && other.At < e.At {
			t.Errorf("ShiftEdit of %v and %v = %v and %v", e, other, after, otherAfter)
		}
		// Where both edits change the length of the text, one of them is moved.
		if len(e.Put) != e.Cut && len(other.Put) != other.Cut {
			changed++
			if first == second {
				t.Errorf("ShiftEdit of %v and %v = %v and %v", e, other, after, otherAfter)
			}
		}
	})
	if changed < 1000 {
		t.Errorf("only %d edits are moved", changed)
	}
}
