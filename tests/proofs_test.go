package tests

import (
	"fmt"
	"math/bits"
	"testing"

	"loop.example/braille/impl"
)

// fault returns a fault.
func fault(kind, at, cell int) impl.Fault {
	return impl.Fault{Kind: kind, At: at, Cell: cell}
}

// proofList returns random cells, many of which are close to each other.
func proofList(seq *sequence, many int) []int {
	few := []int{0, 1, 3, 7, 56, 62, 63}
	list := make([]int, many)
	for i := range list {
		list[i] = few[seq.next(len(few))]
		if seq.next(4) == 0 {
			list[i] = seq.next(64)
		}
	}
	return list
}

// nearList returns cells that differ in little from others, but are not too many.
func nearList(seq *sequence, list []int) []int {
	var near []int
	for _, cell := range list {
		switch seq.next(8) {
		case 0:
			near = append(near, cell^1<<seq.next(6))
		case 1:
			near = append(near, cell, seq.next(64))
		case 2:
		default:
			near = append(near, cell)
		}
	}
	return near[:min(len(near), 30)]
}

// eachProof calls a function with two lists of cells: all short ones of a few
// cells, ones of as many cells as there can be, and many others.
func eachProof(f func(a, b []int)) {
	short := allLists([]int{0, 1, 3, 60, 63}, 3)
	for _, a := range short {
		for _, b := range short {
			f(a, b)
		}
	}
	for _, many := range []int{0, 1, 29, 30} {
		for _, other := range []int{0, 1, 29, 30} {
			for _, cells := range [][2]int{{0, 63}, {1, 2}, {5, 5}, {7, 63}} {
				f(filled(many, cells[0]), filled(other, cells[1]))
			}
		}
	}
	seq := sequence{131}
	for i := range 1500 {
		a := proofList(&seq, seq.next(31))
		if i%2 == 0 {
			f(a, nearList(&seq, a))
		} else {
			f(a, proofList(&seq, seq.next(31)))
		}
	}
}

// fewProofs returns pairs of lists of cells for tests that take each one many
// times.
func fewProofs() [][2][]int {
	var all [][2][]int
	short := allLists([]int{0, 1, 62}, 2)
	for _, a := range short {
		for _, b := range short {
			all = append(all, [2][]int{a, b})
		}
	}
	seq := sequence{132}
	for range 300 {
		a := proofList(&seq, seq.next(31))
		all = append(all, [2][]int{a, nearList(&seq, a)}, [2][]int{a, proofList(&seq, seq.next(31))})
	}
	return all
}

// noProofs returns lists that are not compared, each for one reason alone.
func noProofs() [][]int {
	all := [][]int{filled(31, 1), filled(31, 0), filled(32, 63), filled(200, 1), filled(201, 1), filled(100000, 1)}
	for _, cell := range noCells {
		all = append(all, []int{cell}, []int{1, cell}, []int{cell, 1}, joined(filled(29, 1), []int{cell}))
	}
	return all
}

// dotsApartOf returns the number of dots that only one of two cells has.
func dotsApartOf(cell, other int) int {
	return bits.OnesCount64(uint64(cell ^ other))
}

// costBetween returns the least cost by which cells become others, from the
// first cells on: row by row, the cost of the first cells of b for the first
// ones of a.
func costBetween(a, b []int) int {
	row := make([]int, len(b)+1)
	for j := range row {
		row[j] = 4 * j
	}
	for _, got := range a {
		next := []int{row[0] + 4}
		for j, want := range b {
			next = append(next, min(row[j+1]+4, next[j]+4, row[j]+dotsApartOf(got, want)))
		}
		row = next
	}
	return row[len(b)]
}

// waysToProof returns all faults by which cells become others, from the indices
// i and j on, in the order in which they are preferred.
func waysToProof(a, b []int, i, j int) [][]impl.Fault {
	if i == len(a) && j == len(b) {
		return [][]impl.Fault{nil}
	}
	var ways [][]impl.Fault
	before := func(first []impl.Fault, others [][]impl.Fault) {
		for _, other := range others {
			ways = append(ways, append(append([]impl.Fault{}, first...), other...))
		}
	}
	if i < len(a) && j < len(b) {
		var first []impl.Fault
		if a[i] != b[j] {
			first = []impl.Fault{fault(impl.FaSwap, i, b[j])}
		}
		before(first, waysToProof(a, b, i+1, j+1))
	}
	if i < len(a) {
		before([]impl.Fault{fault(impl.FaCut, i, a[i])}, waysToProof(a, b, i+1, j))
	}
	if j < len(b) {
		before([]impl.Fault{fault(impl.FaPut, i, b[j])}, waysToProof(a, b, i, j+1))
	}
	return ways
}

// costOfFaults returns the cost of faults of cells.
func costOfFaults(a []int, faults []impl.Fault) int {
	cost := 0
	for _, f := range faults {
		if f.Kind == impl.FaSwap {
			cost += dotsApartOf(a[f.At], f.Cell)
		} else {
			cost += 4
		}
	}
	return cost
}

// stepsFound returns the faults of cells by what is said of them: from left to
// right, by the least costs of what is left.
func stepsFound(a, b []int) []impl.Fault {
	var faults []impl.Fault
	i, j := 0, 0
	for i < len(a) || j < len(b) {
		least := costBetween(a[i:], b[j:])
		switch {
		case i < len(a) && j < len(b) && dotsApartOf(a[i], b[j])+costBetween(a[i+1:], b[j+1:]) == least:
			if a[i] != b[j] {
				faults = append(faults, fault(impl.FaSwap, i, b[j]))
			}
			i++
			j++
		case i < len(a) && 4+costBetween(a[i+1:], b[j:]) == least:
			faults = append(faults, fault(impl.FaCut, i, a[i]))
			i++
		default:
			faults = append(faults, fault(impl.FaPut, i, b[j]))
			j++
		}
	}
	return faults
}

// inOrder reports whether faults of cells are valid, each one by itself and
// behind the one before it.
func inOrder(a []int, faults []impl.Fault) bool {
	for i, f := range faults {
		if i > 0 {
			last := faults[i-1]
			if f.At < last.At || f.At == last.At && last.Kind != impl.FaPut {
				return false
			}
		}
		if f.Cell < 0 || f.Cell > 63 || f.At < 0 || f.At > len(a) {
			return false
		}
		switch f.Kind {
		case impl.FaSwap:
			if f.At == len(a) || a[f.At] == f.Cell {
				return false
			}
		case impl.FaCut:
			if f.At == len(a) || a[f.At] != f.Cell {
				return false
			}
		case impl.FaPut:
		default:
			return false
		}
	}
	return true
}

// fixedBackwards returns cells after their faults were put right, and whether
// they can be: the last fault first, so that the cells before it are where they
// were.
func fixedBackwards(a []int, faults []impl.Fault) ([]int, bool) {
	if !inOrder(a, faults) {
		return nil, false
	}
	fixed := joined(a)
	for i := len(faults) - 1; i >= 0; i-- {
		f := faults[i]
		switch f.Kind {
		case impl.FaSwap:
			fixed[f.At] = f.Cell
		case impl.FaCut:
			fixed = joined(fixed[:f.At], fixed[f.At+1:])
		case impl.FaPut:
			fixed = joined(fixed[:f.At], []int{f.Cell}, fixed[f.At:])
		}
	}
	if len(fixed) > 30 {
		return nil, false
	}
	return fixed, true
}

// randomFaults returns valid faults of cells.
func randomFaults(seq *sequence, a []int) []impl.Fault {
	var faults []impl.Fault
	for at := range len(a) + 1 {
		for seq.next(4) == 0 {
			faults = append(faults, fault(impl.FaPut, at, seq.next(64)))
		}
		if at == len(a) {
			break
		}
		switch seq.next(4) {
		case 0:
			faults = append(faults, fault(impl.FaSwap, at, (a[at]+1+seq.next(63))%64))
		case 1:
			faults = append(faults, fault(impl.FaCut, at, a[at]))
		}
	}
	return faults
}

// eachFix calls a function with cells and valid faults of them.
func eachFix(f func(a []int, faults []impl.Fault)) {
	seq := sequence{133}
	for range 3000 {
		a := proofList(&seq, seq.next(31))
		faults := randomFaults(&seq, a)
		if _, ok := fixedBackwards(a, faults); ok {
			f(a, faults)
		}
	}
}

// wantFix fails the test if cells are not fixed as they must be.
func wantFix(t *testing.T, a []int, faults []impl.Fault) {
	t.Helper()
	want, wantOk := fixedBackwards(a, faults)
	got, ok := impl.FixFaults(a, faults)
	if ok != wantOk || !equal(got, want) {
		t.Errorf("FixFaults(%v, %.300s) = %v, %t, want %v, %t", a, fmt.Sprint(faults), got, ok, want, wantOk)
	}
}

// mirrorList returns cells as they are seen from behind.
func mirrorList(list []int) []int {
	var seen []int
	for _, cell := range reversed(list) {
		seen = append(seen, impl.Mirror(cell))
	}
	return seen
}
