package tests

import (
	"fmt"
	"strconv"
	"strings"
	"testing"

	"loop.example/braille/impl"
)

// num returns a number as a formula.
func num(n int) impl.Math {
	return impl.Math{Op: impl.MaNumber, Num: n}
}

// let returns a letter as a formula.
func let(n int) impl.Math {
	return impl.Math{Op: impl.MaLetter, Num: n}
}

// of returns a formula with parts.
func of(kind int, parts ...impl.Math) impl.Math {
	return impl.Math{Op: kind, Kids: parts}
}

// twoPartKinds are the kinds of formulas with two parts.
var twoPartKinds = []int{impl.MaAdd, impl.MaSub, impl.MaMul, impl.MaFrac, impl.MaPower}

// The signs of formulas as text. A number is its digits, with # before them, and
// a letter is itself.
const (
	signText  = "()+-*/:;^~<>#"
	digitText = "jabcdefghi"
)

// signCells are the cells of the signs of signText.
var signCells = []int{35, 28, 44, 36, 33, 57, 12, 62, 24, 56, 34, 59, 60}

// letterCells are the cells of the letters from a to z.
var letterCells = []int{1, 3, 9, 25, 17, 11, 27, 19, 10, 26, 5, 7, 13, 29, 21, 15, 31, 23, 14, 30, 37, 39, 58, 45, 61, 53}

// signed returns the cells of a formula that is told as by signText.
func signed(text string) []int {
	var cells []int
	for i := range text {
		if at := strings.IndexByte(signText, text[i]); at >= 0 {
			cells = append(cells, signCells[at])
		} else {
			cells = append(cells, letterCells[text[i]-'a'])
		}
	}
	return cells
}

// bond tells how close the parts of a formula are together.
func bond(m impl.Math) int {
	switch m.Op {
	case impl.MaAdd, impl.MaSub:
		return 1
	case impl.MaMul:
		return 2
	case impl.MaPower:
		return 3
	}
	return 4
}

// formulaText returns the text of a formula, valid or not by its size, as by
// signText. It has brackets if its parts are not close enough together.
func formulaText(m impl.Math, least int) string {
	if bond(m) < least {
		return "(" + formulaText(m, 0) + ")"
	}
	switch m.Op {
	case impl.MaNumber:
		text := "#"
		for _, c := range strconv.Itoa(m.Num) {
			text += digitText[c-'0' : c-'0'+1]
		}
		return text
	case impl.MaLetter:
		return string(rune('a' + m.Num))
	case impl.MaAdd:
		return formulaText(m.Kids[0], 1) + "+" + formulaText(m.Kids[1], 2)
	case impl.MaSub:
		return formulaText(m.Kids[0], 1) + "-" + formulaText(m.Kids[1], 2)
	case impl.MaMul:
		return formulaText(m.Kids[0], 2) + "*" + formulaText(m.Kids[1], 3)
	case impl.MaFrac:
		return "/" + formulaText(m.Kids[0], 0) + ":" + formulaText(m.Kids[1], 0) + ";"
	case impl.MaPower:
		return formulaText(m.Kids[0], 4) + "^" + formulaText(m.Kids[1], 0) + "~"
	}
	return "<" + formulaText(m.Kids[0], 0) + ">"
}

// written returns the cells of a formula, valid or not by its size.
func written(m impl.Math) []int {
	return signed(formulaText(m, 0))
}

// chain returns a formula of many parts that are letters, with each one joined
// to those before it, or to those behind it, in turn of some kinds.
func chain(many int, behind bool, kinds ...int) impl.Math {
	m := let(0)
	for n := 1; n < many; n++ {
		kind, part := kinds[n%len(kinds)], let(n%26)
		if behind {
			m = of(kind, part, m)
		} else {
			m = of(kind, m, part)
		}
	}
	return m
}

// numbered returns a formula with the greatest number for each letter.
func numbered(m impl.Math) impl.Math {
	if m.Op == impl.MaLetter {
		return num(impl.MaxNumber)
	}
	var parts []impl.Math
	for _, part := range m.Kids {
		parts = append(parts, numbered(part))
	}
	return impl.Math{Op: m.Op, Num: m.Num, Kids: parts}
}

// roots returns a formula with many roots around it.
func roots(m impl.Math, many int) impl.Math {
	for range many {
		m = of(impl.MaRoot, m)
	}
	return m
}

// randomFormula returns a formula that is made of size formulas.
func randomFormula(seq *sequence, size int) impl.Math {
	switch {
	case size == 1 && seq.next(2) == 0:
		return let(seq.next(26))
	case size == 1:
		return num([]int{seq.next(10), seq.next(100), seq.next(1000)}[seq.next(3)])
	case size == 2 || seq.next(6) == 0:
		return of(impl.MaRoot, randomFormula(seq, size-1))
	}
	first := 1 + seq.next(size-2)
	return of(twoPartKinds[seq.next(5)], randomFormula(seq, first), randomFormula(seq, size-1-first))
}

// nested returns formulas of each kind with parts of each kind.
func nested() []impl.Math {
	leaves := []impl.Math{num(10), let(9), let(23)}
	first := append([]impl.Math{}, leaves...)
	for _, kind := range twoPartKinds {
		first = append(first, of(kind, leaves[0], leaves[1]), of(kind, leaves[1], leaves[2]))
	}
	first = append(first, of(impl.MaRoot, leaves[0]))
	second := append([]impl.Math{}, first...)
	for _, one := range first {
		second = append(second, of(impl.MaRoot, one))
		for _, two := range first {
			for _, kind := range twoPartKinds {
				second = append(second, of(kind, one, two))
			}
		}
	}
	return second
}

// formulas returns valid formulas: small ones of all kinds, the largest ones, and
// many others.
func formulas() []impl.Math {
	all := nested()
	for n := range 1000 {
		all = append(all, num(n))
	}
	for n := range 26 {
		all = append(all, let(n))
	}
	for _, behind := range []bool{false, true} {
		for _, kind := range twoPartKinds {
			all = append(all, chain(12, behind, kind), of(impl.MaRoot, chain(12, behind, kind)), numbered(chain(12, behind, kind)))
		}
		all = append(all, chain(12, behind, impl.MaAdd, impl.MaMul), chain(12, behind, impl.MaMul, impl.MaPower), chain(12, behind, impl.MaSub, impl.MaPower, impl.MaFrac))
	}
	all = append(all, roots(num(999), 23), roots(let(25), 22), roots(chain(12, true, impl.MaSub), 1))
	seq := sequence{51}
	for i := range 3000 {
		all = append(all, randomFormula(&seq, 1+i%impl.MaxMath))
	}
	return all
}

// noParts returns formulas that are not valid, each for one reason alone, and
// none because of its size.
func noParts() []impl.Math {
	a := let(0)
	all := []impl.Math{
		num(-1), num(1000), num(1001), let(-1), let(26), let(27),
		{Op: impl.MaNumber, Kids: []impl.Math{a}}, {Op: impl.MaLetter, Kids: []impl.Math{a}}, of(impl.MaNumber, a, a), of(impl.MaLetter, a, a),
		of(impl.MaRoot), of(impl.MaRoot, a, a), of(impl.MaRoot, a, a, a), {Op: impl.MaRoot, Num: 1, Kids: []impl.Math{a}}, {Op: impl.MaRoot, Num: -1, Kids: []impl.Math{a}},
	}
	for _, n := range far {
		all = append(all, num(n), let(n), impl.Math{Op: n}, of(n, a), of(n, a, a))
	}
	for _, kind := range []int{-1, -2, 8, 9} {
		all = append(all, of(kind), of(kind, a), of(kind, a, a), impl.Math{Op: kind, Num: 1})
	}
	for _, kind := range twoPartKinds {
		all = append(all, of(kind), of(kind, a), of(kind, a, a, a), impl.Math{Op: kind, Num: 1, Kids: []impl.Math{a, a}}, impl.Math{Op: kind, Num: -1, Kids: []impl.Math{a, a}}, impl.Math{Op: kind, Num: 1})
	}
	return all
}

// tooLarge returns formulas that are made of too many formulas.
func tooLarge() []impl.Math {
	all := []impl.Math{roots(num(1), 24), roots(num(1), 25), roots(num(1), 100000), roots(chain(12, false, impl.MaAdd), 2), of(impl.MaRoot, make([]impl.Math, 100000)...), of(impl.MaAdd, make([]impl.Math, 100000)...), of(impl.MaNumber, make([]impl.Math, 100000)...)}
	for _, behind := range []bool{false, true} {
		for _, kind := range twoPartKinds {
			all = append(all, chain(13, behind, kind), chain(14, behind, kind), chain(1000, behind, kind))
		}
	}
	seq := sequence{52}
	for range 100 {
		all = append(all, randomFormula(&seq, 25), randomFormula(&seq, 26+seq.next(10)))
	}
	// A formula that is a part of itself has no end.
	for _, kind := range twoPartKinds {
		parts := make([]impl.Math, 2)
		parts[0], parts[1] = of(kind, parts...), of(kind, parts...)
		parts[0].Kids, parts[1].Kids = parts, parts
		all = append(all, of(kind, parts...))
	}
	part := make([]impl.Math, 1)
	part[0] = impl.Math{Op: impl.MaRoot, Kids: part}
	return append(all, part[0])
}

// wantMath fails the test if cells are not read as a formula.
func wantMath(t *testing.T, cells []int, want impl.Math) {
	t.Helper()
	if got, ok := impl.ReadMath(cells); !ok || fmt.Sprint(got) != fmt.Sprint(want) {
		t.Errorf("ReadMath(%v) = %v, %t, want %v", cells, got, ok, want)
	}
}

// wantNoMath fails the test if cells are read as a formula.
func wantNoMath(t *testing.T, cells []int) {
	t.Helper()
	if got, ok := impl.ReadMath(cells); ok || got.Op != 0 || got.Num != 0 || len(got.Kids) > 0 {
		t.Errorf("ReadMath(%v) = %v, %t", cells, got, ok)
	}
}

// mathByText returns all formulas of at most many cells with the letters a and j,
// and the digits 0 and 1, by their texts.
func mathByText(t *testing.T, many int) map[string]impl.Math {
	found := map[string]impl.Math{}
	byLength := make([][]impl.Math, many+1)
	add := func(m impl.Math) {
		text := formulaText(m, 0)
		if len(text) > many {
			return
		}
		other, known := found[text]
		if known && fmt.Sprint(other) != fmt.Sprint(m) {
			t.Errorf("%v and %v are written in the same way", other, m)
		}
		if !known {
			found[text] = m
			byLength[len(text)] = append(byLength[len(text)], m)
		}
	}
	for _, m := range []impl.Math{let(0), let(9), num(0), num(1), num(10), num(11), num(100), num(101), num(110), num(111)} {
		add(m)
	}
	// A formula is longer than each of its parts, and than two of them together.
	for length := 1; length < many; length++ {
		for _, one := range byLength[length] {
			add(of(impl.MaRoot, one))
			for other := 1; other <= length && other+length < many; other++ {
				for _, two := range byLength[other] {
					for _, kind := range twoPartKinds {
						add(of(kind, one, two))
						add(of(kind, two, one))
					}
				}
			}
		}
	}
	return found
}
