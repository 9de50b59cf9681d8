package tests

import (
	"fmt"
	"slices"
	"testing"

	"loop.example/braille/impl"
)

func TestValuesOfNotes(t *testing.T) {
	wantCells(t, "the values of notes", []int{impl.Whole, impl.Half, impl.Quarter, impl.Eighth}, []int{0, 1, 2, 3})
	if impl.MaxPitch != 48 || impl.MaxNotes != 40 || impl.MaxBar != 16 {
		t.Errorf("MaxPitch, MaxNotes and MaxBar are %d, %d and %d", impl.MaxPitch, impl.MaxNotes, impl.MaxBar)
	}
}

func TestLengthOf(t *testing.T) {
	for text, want := range map[string]int{"": 0, "w": 8, "h": 4, "q": 2, "e": 1, "W": 8, "H": 4, "Q": 2, "E": 1, "whqe": 15, "WHQE": 15, "eEee": 4} {
		if got := impl.LengthOf(rhythm(text)); got != want {
			t.Errorf("LengthOf(%q) = %d, want %d", text, got, want)
		}
	}
	for _, notes := range scores() {
		if got := impl.LengthOf(notes); got != length(notes) {
			t.Errorf("LengthOf(%v) = %d, want %d", notes, got, length(notes))
		}
	}
}

func TestOtherNotes(t *testing.T) {
	for _, notes := range noScores() {
		if got := impl.LengthOf(notes); got != -1 {
			t.Errorf("LengthOf(%v) = %d", notes, got)
		}
		if cells := impl.MusicCells(notes); len(cells) > 0 {
			t.Errorf("MusicCells(%v) = %v", notes, cells)
		}
		for size := 1; size <= 16; size++ {
			if bars, ok := impl.BarsOf(notes, size); ok || len(bars) > 0 {
				t.Errorf("BarsOf(%v, %d) = %v, %t", notes, size, bars, ok)
			}
		}
		for _, by := range []int{0, 1, -1, 3} {
			if moved, ok := impl.Transpose(notes, by); ok || len(moved) > 0 {
				t.Errorf("Transpose(%v, %d) = %v, %t", notes, by, moved, ok)
			}
		}
	}
}

func TestNotesOfTheLimitAreValid(t *testing.T) {
	for many := 38; many <= 43; many++ {
		for _, pitch := range []int{-1, 0, 48} {
			notes := tune(filled(many, pitch)...)
			bars, ok := impl.BarsOf(notes, 2)
			moved, fine := impl.Transpose(notes, 0)
			valid := many <= 40
			if (impl.LengthOf(notes) == 2*many) != valid || (len(impl.MusicCells(notes)) > 0) != valid || ok != valid || fine != valid || (len(bars) == many) != valid || (len(moved) == many) != valid {
				t.Errorf("%d notes are not valid: %t", many, valid)
			}
			if valid {
				wantMusic(t, noted(notes), notes)
			} else {
				wantNoMusic(t, noted(notes))
			}
		}
	}
}

func TestMusicCells(t *testing.T) {
	for _, c := range []struct {
		notes []impl.Note
		cells []int
	}{
		{nil, nil},
		{rhythm("WHQE"), []int{13, 37, 39, 45}},
		// All steps and octaves.
		{tune(0, 1, 2, 3, 4, 5, 6), []int{8, 57, 49, 43, 59, 51, 42, 58}}, {tune(48, 47, 46, 45, 44, 43, 42), []int{32, 58, 42, 51, 59, 43, 49, 57}},
		{tune(0, 7, 14, 21, 28, 35, 42), []int{8, 57, 24, 57, 56, 57, 16, 57, 40, 57, 48, 57, 32, 57}}, {tune(48, 41, 34, 27, 20, 13, 6), []int{32, 58, 48, 58, 40, 58, 16, 58, 56, 58, 24, 58, 8, 58}},
		// All values.
		{[]impl.Note{note(0, impl.Whole), note(0, impl.Half), note(0, impl.Quarter), note(0, impl.Eighth)}, []int{8, 61, 29, 57, 25}}, {[]impl.Note{note(5, impl.Whole), note(5, impl.Half), note(5, impl.Quarter), note(5, impl.Eighth)}, []int{8, 46, 14, 42, 10}},
		// Seconds and thirds have no marks, also in another octave.
		{tune(6, 7), []int{8, 58, 57}}, {tune(7, 6), []int{24, 57, 58}}, {tune(6, 8), []int{8, 58, 49}}, {tune(8, 6), []int{24, 49, 58}}, {tune(5, 7), []int{8, 42, 57}}, {tune(7, 5), []int{24, 57, 42}}, {tune(7, 7), []int{24, 57, 57}},
		// Fourths and fifths have marks in another octave.
		{tune(0, 3), []int{8, 57, 59}}, {tune(3, 6), []int{8, 59, 58}}, {tune(3, 0), []int{8, 59, 57}}, {tune(4, 7), []int{8, 51, 24, 57}}, {tune(7, 4), []int{24, 57, 8, 51}}, {tune(6, 9), []int{8, 58, 24, 43}},
		{tune(0, 4), []int{8, 57, 51}}, {tune(2, 6), []int{8, 43, 58}}, {tune(6, 2), []int{8, 58, 43}}, {tune(3, 7), []int{8, 59, 24, 57}}, {tune(7, 3), []int{24, 57, 8, 59}}, {tune(6, 10), []int{8, 58, 24, 59}},
		// Sixths and wider ones have marks.
		{tune(0, 5), []int{8, 57, 8, 42}}, {tune(5, 0), []int{8, 42, 8, 57}}, {tune(0, 6), []int{8, 57, 8, 58}}, {tune(2, 7), []int{8, 43, 24, 57}}, {tune(0, 48), []int{8, 57, 32, 58}}, {tune(48, 0), []int{32, 58, 8, 57}},
		// Rests are not before a mark, and do not change the note before.
		{tune(-1, 7), []int{39, 24, 57}}, {tune(-1, -1, 0, -1), []int{39, 39, 8, 57, 39}}, {tune(7, -1, 7), []int{24, 57, 39, 57}}, {tune(7, -1, -1, 9, -1, 4), []int{24, 57, 39, 39, 43, 39, 8, 51}}, {tune(0, -1, 5), []int{8, 57, 39, 8, 42}}, {tune(6, -1, 9), []int{8, 58, 39, 24, 43}}, {tune(6, -1, 7), []int{8, 58, 39, 57}},
		{tune(3, -1, 0), []int{8, 59, 39, 57}}, {tune(0, -1, 2), []int{8, 57, 39, 43}}, {tune(4, -1, 0), []int{8, 51, 39, 57}}, {tune(5, -1, 0), []int{8, 42, 39, 8, 57}},
		// The note before counts, and not the one with the last mark.
		{tune(0, 2, 4, 6, 8, 10, 12), []int{8, 57, 43, 51, 58, 49, 59, 42}}, {tune(0, 4, 0, 4, 8), []int{8, 57, 51, 57, 51, 24, 49}},
	} {
		wantCells(t, fmt.Sprintf("MusicCells(%v)", c.notes), impl.MusicCells(c.notes), c.cells)
		wantMusic(t, c.cells, c.notes)
	}
}

func TestMusicCellsOfAllKinds(t *testing.T) {
	for _, notes := range scores() {
		wantCells(t, fmt.Sprintf("MusicCells(%v)", notes), impl.MusicCells(notes), noted(notes))
	}
}

func TestReadMusicOfAllShortLists(t *testing.T) {
	known := scoresByCells()
	read := 0
	check := func(cells []int) {
		if want, ok := known[fmt.Sprint(cells)]; ok {
			read++
			wantMusic(t, cells, want)
		} else {
			wantNoMusic(t, cells)
		}
	}
	check([]int{})
	for one := range 64 {
		check([]int{one})
		for two := range 64 {
			check([]int{one, two})
			for three := range 64 {
				check([]int{one, two, three})
			}
		}
	}
	if read != len(known) {
		t.Errorf("%d of %d lists are read", read, len(known))
	}
}

func TestReadMusicOfOtherCells(t *testing.T) {
	for _, cells := range [][]int{
		// There is no mark where one is due.
		{57}, {39, 57}, {57, 24}, {13, 13, 26}, {8, 57, 42},
		// There is a mark where none is due, or no note behind it.
		{8, 57, 8, 57}, {8, 57, 8, 51}, {8, 58, 24, 57}, {8, 57, 39, 8, 57}, {8, 8, 57}, {8, 24, 57}, {8}, {8, 57, 24}, {39, 8}, {8, 39}, {8, 39, 57}, {8, 57, 24, 39}, {8, 57, 24, 39, 57}, {8, 57, 24, 24, 57},
		// The nearest note is not in 0..MaxPitch.
		{8, 57, 58}, {8, 57, 42}, {8, 49, 58}, {32, 58, 57}, {32, 58, 49}, {32, 42, 57}, {8, 57, 39, 58}, {32, 58, 39, 57},
		// A cell is no note.
		{0}, {1}, {63}, {8, 0}, {8, 57, 0}, {0, 8, 57}, {8, 57, 1}, {36}, {4}, {8, 36}, {60},
	} {
		wantNoMusic(t, cells)
	}
	for _, n := range noCells {
		for _, cells := range [][]int{{n}, {39, n}, {n, 39}, {8, n}, {8, 57, n}, {n, 8, 57}, {8, n, 57}} {
			wantNoMusic(t, cells)
		}
	}
	for _, many := range []int{40, 41, 100, 199, 200, 201, 100000} {
		for _, cell := range []int{0, 8, 13, 57, 45, 63} {
			if many > 40 || cell != 13 && cell != 45 {
				wantNoMusic(t, filled(many, cell))
			}
			if many > 39 && cell != 57 {
				wantNoMusic(t, append([]int{8, 57}, filled(many, cell)...))
			}
		}
		if many > 40 {
			wantNoMusic(t, append([]int{8}, filled(many, 57)...))
		}
	}
}

func TestBarsOf(t *testing.T) {
	for _, c := range []struct {
		notes string
		size  int
		want  []int
	}{
		{"w", 8, []int{1}}, {"e", 1, []int{1}}, {"eee", 1, []int{1, 2, 3}}, {"ww", 16, []int{2}}, {"wwww", 16, []int{2, 4}}, {"whhw", 8, []int{1, 3, 4}}, {"qqqqqq", 6, []int{3, 6}}, {"qqqqqq", 4, []int{2, 4, 6}}, {"hqqHQQ", 8, []int{3, 6}}, {"eqeqee", 4, []int{3, 6}}, {"qeqe", 3, []int{2, 4}},
		{"EeEe", 2, []int{2, 4}}, {"whqe", 15, []int{4}}, {"whqeeqhw", 15, []int{4, 8}}, {"qeqeqqqqe", 5, []int{3, 6, 9}},
		// A bar ends inside of a note.
		{"w", 4, nil}, {"w", 1, nil}, {"w", 7, nil}, {"eq", 1, nil}, {"eqe", 2, nil}, {"qhq", 4, nil}, {"hwh", 8, nil}, {"ewq", 5, nil}, {"wee", 5, nil}, {"ehe", 3, nil}, {"eew", 5, nil}, {"hwhw", 8, nil}, {"www", 12, nil}, {"EQE", 2, nil},
		// The last bar is not full.
		{"w", 9, nil}, {"w", 16, nil}, {"e", 2, nil}, {"qqq", 4, nil}, {"wwe", 8, nil}, {"eee", 2, nil}, {"www", 16, nil}, {"wwwwe", 16, nil}, {"qqE", 4, nil},
	} {
		bars, ok := impl.BarsOf(rhythm(c.notes), c.size)
		wantCells(t, fmt.Sprintf("BarsOf(%q, %d)", c.notes, c.size), bars, c.want)
		if ok != (len(c.want) > 0) {
			t.Errorf("BarsOf(%q, %d) is %t", c.notes, c.size, ok)
		}
	}
	for size := 1; size <= 16; size++ {
		if bars, ok := impl.BarsOf(nil, size); !ok || len(bars) > 0 {
			t.Errorf("BarsOf no notes with %d = %v, %t", size, bars, ok)
		}
	}
	for _, size := range append([]int{0, -1, -2, -16, 17, 18, 32}, far...) {
		for _, notes := range []string{"", "e", "ee", "w", "ww", "wwe", "wwwweeee"} {
			if bars, ok := impl.BarsOf(rhythm(notes), size); ok || len(bars) > 0 {
				t.Errorf("BarsOf(%q, %d) = %v, %t", notes, size, bars, ok)
			}
		}
	}
}

// barScores returns lists of notes that have bars of some sizes: all short ones,
// and others of bars that are full.
func barScores() [][]impl.Note {
	var all [][]impl.Note
	for _, text := range textsOf("whqe", 5) {
		all = append(all, rhythm(text))
	}
	seq := sequence{62}
	for i := range 600 {
		size, left := 1+i%16, 0
		var notes []impl.Note
		for len(notes) < 30 || left > 0 {
			if left == 0 {
				left = size
			}
			value := seq.next(4)
			if eighths[value] <= left && (len(notes) < 30 || eighths[value]*2 > left) {
				left -= eighths[value]
				notes = append(notes, note(seq.next(50)-1, value))
			}
		}
		all = append(all, notes)
	}
	return all
}

func TestBarsOfAllKinds(t *testing.T) {
	for _, notes := range append(barScores(), scores()...) {
		for size := 1; size <= 16; size++ {
			bars, ok := impl.BarsOf(notes, size)
			want, found := barsFound(notes, size)
			if ok != found || !equal(bars, want) {
				t.Errorf("BarsOf(%v, %d) = %v, %t, want %v, %t", notes, size, bars, ok, want, found)
			}
		}
	}
}

func TestTranspose(t *testing.T) {
	for _, c := range []struct {
		from []impl.Note
		by   int
		to   []impl.Note
	}{
		{nil, 0, nil}, {nil, 48, nil}, {nil, -48, nil}, {tune(-1), 48, tune(-1)}, {tune(-1, -1), -48, tune(-1, -1)}, {tune(0), 48, tune(48)}, {tune(48), -48, tune(0)}, {tune(24, -1, 30), 7, tune(31, -1, 37)}, {tune(24, -1, 30), -24, tune(0, -1, 6)}, {tune(0, 47), 1, tune(1, 48)}, {tune(48, 1), -1, tune(47, 0)}, {tune(0, 48, -1), 0, tune(0, 48, -1)},
	} {
		moved, ok := impl.Transpose(c.from, c.by)
		if !ok || fmt.Sprint(moved) != fmt.Sprint(c.to) {
			t.Errorf("Transpose(%v, %d) = %v, %t, want %v", c.from, c.by, moved, ok, c.to)
		}
	}
	for pitch := -1; pitch <= 48; pitch++ {
		for by := -60; by <= 60; by++ {
			moved, ok := impl.Transpose([]impl.Note{note(pitch, impl.Half), note(-1, impl.Whole)}, by)
			to := pitch + by
			if pitch == -1 {
				to = -1
			}
			want := by >= -48 && by <= 48 && (pitch == -1 || to >= 0 && to <= 48)
			if ok != want || ok && fmt.Sprint(moved) != fmt.Sprint([]impl.Note{note(to, impl.Half), note(-1, impl.Whole)}) || !ok && len(moved) > 0 {
				t.Errorf("Transpose of the pitch %d by %d = %v, %t", pitch, by, moved, ok)
			}
		}
	}
	for _, c := range []struct {
		notes []impl.Note
		by    int
	}{{tune(0), -1}, {tune(48), 1}, {tune(24, 0, 24), -1}, {tune(24, 48), 1}, {tune(1), -48}, {tune(47), 48}, {tune(24, 24, 2), -3}, {tune(2), -3}} {
		if moved, ok := impl.Transpose(c.notes, c.by); ok || len(moved) > 0 {
			t.Errorf("Transpose(%v, %d) = %v, %t", c.notes, c.by, moved, ok)
		}
	}
	for _, by := range append([]int{49, -49, 50, -50, 100, -100}, far...) {
		for _, notes := range [][]impl.Note{nil, tune(-1), tune(0), tune(48), tune(24, -1)} {
			if moved, ok := impl.Transpose(notes, by); ok || len(moved) > 0 {
				t.Errorf("Transpose(%v, %d) = %v, %t", notes, by, moved, ok)
			}
		}
	}
}

func TestP94LengthsAddUp(t *testing.T) {
	for _, notes := range scores() {
		half := len(notes) / 2
		if impl.LengthOf(notes) != impl.LengthOf(notes[:half])+impl.LengthOf(notes[half:]) {
			t.Errorf("LengthOf(%v) = %d", notes, impl.LengthOf(notes))
		}
	}
}

func TestP95MusicIsReadBack(t *testing.T) {
	for _, notes := range scores() {
		wantMusic(t, impl.MusicCells(notes), notes)
	}
}

// octaveHigher returns notes an octave higher, and whether there are such notes.
func octaveHigher(notes []impl.Note) ([]impl.Note, bool) {
	var high []impl.Note
	for _, n := range notes {
		if n.Pitch >= 0 {
			n.Pitch += 7
		}
		if n.Pitch > 48 {
			return nil, false
		}
		high = append(high, n)
	}
	return high, true
}

func TestP96OctavesChangeMarksAlone(t *testing.T) {
	marks := 0
	for _, notes := range scores() {
		high, ok := octaveHigher(notes)
		if !ok {
			continue
		}
		var want []int
		for _, cell := range impl.MusicCells(notes) {
			if isOctaveMark(cell) {
				cell = octaveCells[1+slices.Index(octaveCells, cell)]
				marks++
			}
			want = append(want, cell)
		}
		wantCells(t, fmt.Sprintf("MusicCells(%v)", high), impl.MusicCells(high), want)
	}
	if marks < 1000 {
		t.Errorf("only %d marks are an octave higher", marks)
	}
}

func TestP97StepsNeedNoMarks(t *testing.T) {
	for pitch := 0; pitch < 48; pitch++ {
		for value := range 4 {
			cells := impl.MusicCells([]impl.Note{note(pitch, value), note(pitch+1, value)})
			if len(cells) != 3 || cells[0] != octaveCells[pitch/7] || isOctaveMark(cells[1]) || isOctaveMark(cells[2]) {
				t.Errorf("MusicCells of %d and the next note = %v", pitch, cells)
			}
		}
	}
}

func TestP98MusicIsWrittenBack(t *testing.T) {
	seq := sequence{63}
	from := joined(restCells, octaveCells, stepCells, noted(tune(0, 1, 2, 3, 4, 5, 6)), []int{0, 1, 63})
	read := 0
	for _, notes := range scores() {
		for range 5 {
			cells := noted(notes)
			if len(cells) > 0 {
				at, cell := seq.next(len(cells)), from[seq.next(len(from))]
				switch seq.next(3) {
				case 0:
					cells = joined(cells[:at], cells[at+1:])
				case 1:
					cells = joined(cells[:at], []int{cell}, cells[at:])
				default:
					cells[at] = cell
				}
			}
			if got, ok := impl.ReadMusic(cells); ok {
				read++
				wantCells(t, fmt.Sprintf("MusicCells of ReadMusic(%v)", cells), impl.MusicCells(got), cells)
				wantCells(t, fmt.Sprintf("the cells of ReadMusic(%v)", cells), noted(got), cells)
			}
		}
	}
	if read < 1000 {
		t.Errorf("only %d lists are read", read)
	}
}

func TestP99BarsAreFull(t *testing.T) {
	full := 0
	for _, notes := range append(barScores(), scores()...) {
		for size := 1; size <= 16; size++ {
			bars, ok := impl.BarsOf(notes, size)
			if !ok {
				continue
			}
			from := 0
			for _, to := range bars {
				if to <= from || to > len(notes) || impl.LengthOf(notes[from:to]) != size {
					t.Errorf("BarsOf(%v, %d) = %v", notes, size, bars)
					break
				}
				from = to
				full++
			}
			if len(bars) > 0 && bars[len(bars)-1] != len(notes) || len(bars) == 0 && len(notes) > 0 {
				t.Errorf("BarsOf(%v, %d) = %v, and there are %d notes", notes, size, bars, len(notes))
			}
		}
	}
	if full < 1000 {
		t.Errorf("only %d bars are full", full)
	}
}

func TestP100BarsDoNotDependOnPitches(t *testing.T) {
	for _, notes := range append(barScores(), scores()...) {
		for _, by := range []int{1, -1, 7, -20, 48} {
			moved, ok := impl.Transpose(notes, by)
			if !ok {
				continue
			}
			if impl.LengthOf(moved) != impl.LengthOf(notes) {
				t.Errorf("LengthOf(%v) = %d, and was %d", moved, impl.LengthOf(moved), impl.LengthOf(notes))
			}
			for size := 1; size <= 16; size++ {
				bars, ok := impl.BarsOf(notes, size)
				others, fine := impl.BarsOf(moved, size)
				if ok != fine || !equal(bars, others) {
					t.Errorf("BarsOf(%v, %d) = %v, %t, and was %v, %t", moved, size, others, fine, bars, ok)
				}
			}
		}
	}
}

func TestP101NotesComeDownAgain(t *testing.T) {
	moves := 0
	for _, notes := range scores() {
		for by := -48; by <= 48; by++ {
			moved, ok := impl.Transpose(notes, by)
			if !ok {
				continue
			}
			moves++
			if back, ok := impl.Transpose(moved, -by); !ok || fmt.Sprint(back) != fmt.Sprint(notes) {
				t.Errorf("Transpose(%v, %d) = %v, %t, want %v", moved, -by, back, ok, notes)
			}
		}
	}
	if moves < 1000 {
		t.Errorf("only %d lists of notes are transposed", moves)
	}
}

func TestP102RestsStay(t *testing.T) {
	for _, notes := range scores() {
		for _, by := range []int{-48, -8, -1, 0, 1, 5, 12, 48} {
			moved, ok := impl.Transpose(notes, by)
			if !ok {
				continue
			}
			if len(moved) != len(notes) {
				t.Errorf("Transpose(%v, %d) = %v", notes, by, moved)
				continue
			}
			for i, n := range notes {
				if n.Pitch >= 0 {
					n.Pitch += by
				}
				if moved[i] != n {
					t.Errorf("Transpose(%v, %d) = %v", notes, by, moved)
				}
			}
		}
	}
}

func TestMusicIsNewMemory(t *testing.T) {
	notes := append(make([]impl.Note, 0, 50), rhythm("hqqHee")...)
	cells := noted(notes)
	for range 2 {
		fillCapacity(impl.MusicCells(notes))
		bars, _ := impl.BarsOf(notes, 4)
		fillCapacity(bars)
		for _, by := range []int{0, 3} {
			moved, _ := impl.Transpose(notes, by)
			read, _ := impl.ReadMusic(cells)
			for _, list := range [][]impl.Note{moved[:cap(moved)], read[:cap(read)]} {
				for i := range list {
					list[i] = note(-7, -7)
				}
			}
		}
		impl.LengthOf(notes)
		if fmt.Sprint(notes) != fmt.Sprint(rhythm("hqqHee")) || notes[:7][6] != note(0, 0) {
			t.Errorf("the notes after the calls are %v", notes)
		}
		wantCells(t, "the cells after the calls", cells, noted(rhythm("hqqHee")))
	}
}
