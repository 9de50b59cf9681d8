package tests

import (
	"fmt"
	"strings"
	"testing"

	"loop.example/braille/impl"
)

// The cells of notes and rests by their values, and those of eighth notes by
// their steps, and of marks by their octaves.
var (
	restCells   = []int{13, 37, 39, 45}
	stepCells   = []int{25, 17, 11, 27, 19, 10, 26}
	valueDots   = []int{36, 4, 32, 0}
	octaveCells = []int{8, 24, 56, 16, 40, 48, 32}
	eighths     = []int{8, 4, 2, 1}
)

// note returns a note.
func note(pitch, value int) impl.Note {
	return impl.Note{Pitch: pitch, Value: value}
}

// tune returns quarter notes with some pitches.
func tune(pitches ...int) []impl.Note {
	var notes []impl.Note
	for _, pitch := range pitches {
		notes = append(notes, note(pitch, impl.Quarter))
	}
	return notes
}

// rhythm returns notes of one pitch with the values that the letters w, h, q and
// e tell, and rests for capital letters.
func rhythm(text string) []impl.Note {
	var notes []impl.Note
	for i := range text {
		if value := strings.IndexByte("whqe", text[i]); value >= 0 {
			notes = append(notes, note(24, value))
		} else {
			notes = append(notes, note(-1, strings.IndexByte("WHQE", text[i])))
		}
	}
	return notes
}

// marked reports whether a note has a mark behind a note with the pitch before,
// by the name of the interval: seconds and thirds have none, fourths and fifths
// only in another octave, and all others have one.
func marked(before, pitch int) bool {
	switch interval := max(before-pitch, pitch-before) + 1; interval {
	case 1, 2, 3:
		return false
	case 4, 5:
		return before/7 < pitch/7 || before/7 > pitch/7
	}
	return true
}

// noted returns the cells of notes, however many there are.
func noted(notes []impl.Note) []int {
	var cells, sounding []int
	for _, n := range notes {
		if n.Pitch < 0 {
			cells = append(cells, restCells[n.Value])
			continue
		}
		if len(sounding) == 0 || marked(sounding[len(sounding)-1], n.Pitch) {
			cells = append(cells, octaveCells[n.Pitch/7])
		}
		sounding = append(sounding, n.Pitch)
		cells = append(cells, stepCells[n.Pitch%7]|valueDots[n.Value])
	}
	return cells
}

// isOctaveMark reports whether a cell is the mark of an octave.
func isOctaveMark(cell int) bool {
	return count(octaveCells, cell) > 0
}

// length returns the length of notes.
func length(notes []impl.Note) int {
	all := 0
	for _, n := range notes {
		all += eighths[n.Value]
	}
	return all
}

// randomNotes returns many notes: most of them near to the one before, some of
// them far away, and some rests.
func randomNotes(seq *sequence, many int) []impl.Note {
	var notes []impl.Note
	pitch := seq.next(49)
	for range many {
		pitch = min(48, max(0, pitch+seq.next(13)-6))
		switch seq.next(8) {
		case 0:
			notes = append(notes, note(-1, seq.next(4)))
		case 1:
			pitch = seq.next(49)
			notes = append(notes, note(pitch, seq.next(4)))
		default:
			notes = append(notes, note(pitch, seq.next(4)))
		}
	}
	return notes
}

// scores returns lists of valid notes: all of two pitches, with and without rests,
// the longest ones, and many others.
func scores() [][]impl.Note {
	all := [][]impl.Note{nil, {}}
	for one := -1; one <= 48; one++ {
		for value := range 4 {
			all = append(all, []impl.Note{note(one, value)})
		}
		for two := -1; two <= 48; two++ {
			all = append(all, tune(one, two), tune(one, -1, two), tune(-1, one, -1, -1, two, one))
		}
	}
	for _, pitch := range []int{-1, 0, 24, 48} {
		for value := range 4 {
			var notes []impl.Note
			for range impl.MaxNotes {
				notes = append(notes, note(pitch, value))
			}
			all = append(all, notes)
		}
	}
	var far []impl.Note
	for n := range impl.MaxNotes {
		far = append(far, note(48*(n%2), n%4))
	}
	all = append(all, far)
	seq := sequence{61}
	for i := range 1500 {
		all = append(all, randomNotes(&seq, i%(impl.MaxNotes+1)))
	}
	return all
}

// noScores returns lists of notes that are not valid, each for one reason alone.
func noScores() [][]impl.Note {
	var all [][]impl.Note
	good := note(24, impl.Half)
	for _, n := range append([]int{-2, -3, 49, 50}, far...) {
		bad := note(n, impl.Half)
		all = append(all, []impl.Note{bad}, []impl.Note{good, bad}, []impl.Note{bad, good})
	}
	for _, n := range append([]int{-1, -2, 4, 5}, far...) {
		for _, pitch := range []int{-1, 24} {
			bad := note(pitch, n)
			all = append(all, []impl.Note{bad}, []impl.Note{good, bad}, []impl.Note{bad, good})
		}
	}
	for _, many := range []int{41, 42, 200, 100000} {
		all = append(all, make([]impl.Note, many), tune(filled(many, -1)...))
	}
	return all
}

// wantMusic fails the test if cells are not read as notes.
func wantMusic(t *testing.T, cells []int, want []impl.Note) {
	t.Helper()
	if got, ok := impl.ReadMusic(cells); !ok || fmt.Sprint(got) != fmt.Sprint(want) {
		t.Errorf("ReadMusic(%v) = %v, %t, want %v", cells, got, ok, want)
	}
}

// wantNoMusic fails the test if cells are read as notes.
func wantNoMusic(t *testing.T, cells []int) {
	t.Helper()
	if got, ok := impl.ReadMusic(cells); ok || len(got) > 0 {
		t.Errorf("ReadMusic(%v) = %v, %t", cells, got, ok)
	}
}

// scoresByCells returns all lists of notes with at most three cells, by these.
func scoresByCells() map[string][]impl.Note {
	var one []impl.Note
	for pitch := -1; pitch <= 48; pitch++ {
		for value := range 4 {
			one = append(one, note(pitch, value))
		}
	}
	found := map[string][]impl.Note{}
	last := [][]impl.Note{nil}
	for len(last) > 0 {
		var next [][]impl.Note
		for _, notes := range last {
			found[fmt.Sprint(noted(notes))] = notes
			for _, n := range one {
				if longer := append(append([]impl.Note{}, notes...), n); len(noted(longer)) <= 3 {
					next = append(next, longer)
				}
			}
		}
		last = next
	}
	return found
}

// barsFound returns where the bars of notes end, by the lengths of all beginnings
// of the notes, and whether there are such bars.
func barsFound(notes []impl.Note, size int) ([]int, bool) {
	ends := map[int]int{}
	for n := range notes {
		ends[length(notes[:n+1])] = n + 1
	}
	var bars []int
	at := 0
	for at < length(notes) {
		at += size
		if ends[at] == 0 {
			return nil, false
		}
		bars = append(bars, ends[at])
	}
	return bars, true
}
