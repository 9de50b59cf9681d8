package tests

import (
	"fmt"
	"strings"
	"testing"

	"loop.example/braille/impl"
)

func TestSignsOfFormulas(t *testing.T) {
	got := []int{impl.MathOpen, impl.MathClose, impl.MathPlus, impl.MathMinus, impl.MathTimes, impl.MathFrac, impl.MathOver, impl.MathFracEnd, impl.MathPower, impl.MathPowerEnd, impl.MathRoot, impl.MathRootEnd, impl.SignNumber}
	wantCells(t, "the signs of formulas", got, signCells)
	kinds := []int{impl.MaNumber, impl.MaLetter, impl.MaAdd, impl.MaSub, impl.MaMul, impl.MaFrac, impl.MaPower, impl.MaRoot}
	wantCells(t, "the kinds of formulas", kinds, []int{0, 1, 2, 3, 4, 5, 6, 7})
	if impl.MaxNumber != 999 || impl.MaxMath != 24 {
		t.Errorf("MaxNumber and MaxMath are %d and %d", impl.MaxNumber, impl.MaxMath)
	}
}

// partCount returns the number of formulas that a formula is made of.
func partCount(m impl.Math) int {
	many := 1
	for _, part := range m.Kids {
		many += partCount(part)
	}
	return many
}

func TestMathSize(t *testing.T) {
	a := let(0)
	for _, c := range []struct {
		m    impl.Math
		want int
	}{
		{impl.Math{}, 1}, {num(0), 1}, {num(999), 1}, {let(25), 1}, {of(impl.MaRoot, a), 2}, {of(impl.MaAdd, a, a), 3}, {of(impl.MaPower, of(impl.MaRoot, a), of(impl.MaFrac, a, num(5))), 6},
		{impl.Math{Op: impl.MaNumber, Num: 3, Kids: []impl.Math{}}, 1}, {roots(a, 23), 24}, {chain(12, true, impl.MaSub), 23}, {of(impl.MaRoot, chain(12, false, impl.MaMul)), 24},
	} {
		if got := impl.MathSize(c.m); got != c.want {
			t.Errorf("MathSize(%v) = %d, want %d", c.m, got, c.want)
		}
	}
	for _, m := range formulas() {
		if got := impl.MathSize(m); got != partCount(m) {
			t.Errorf("MathSize(%v) = %d, want %d", m, got, partCount(m))
		}
	}
}

func TestOtherFormulas(t *testing.T) {
	a := let(0)
	check := func(m impl.Math) {
		if size, cells := impl.MathSize(m), impl.MathCells(m); size != -1 || len(cells) > 0 {
			t.Errorf("MathSize and MathCells of a formula of the kind %d with %d and %d parts = %d, %v", m.Op, m.Num, len(m.Kids), size, cells)
		}
	}
	for _, m := range noParts() {
		check(m)
		check(of(impl.MaRoot, m))
		for _, kind := range twoPartKinds {
			check(of(kind, m, a))
			check(of(kind, a, m))
			check(of(kind, a, of(impl.MaRoot, of(kind, m, a))))
		}
	}
	for _, m := range tooLarge() {
		check(m)
	}
}

func TestMathSizeAtTheLimit(t *testing.T) {
	seq := sequence{53}
	for size := 1; size <= 30; size++ {
		for range 50 {
			m := randomFormula(&seq, size)
			want := size
			if size > 24 {
				want = -1
			}
			if got, cells := impl.MathSize(m), impl.MathCells(m); got != want || (len(cells) > 0) != (size <= 24) {
				t.Errorf("MathSize and MathCells of %d formulas = %d, %v", size, got, cells)
			}
			if size > 24 {
				wantNoMath(t, written(m))
			}
		}
	}
	for _, kind := range twoPartKinds {
		for _, behind := range []bool{false, true} {
			wantMath(t, written(chain(12, behind, kind)), chain(12, behind, kind))
			wantNoMath(t, written(chain(13, behind, kind)))
		}
	}
	wantMath(t, written(roots(num(999), 23)), roots(num(999), 23))
	wantNoMath(t, written(roots(num(999), 24)))
}

func TestMathCells(t *testing.T) {
	a, b, c, x := let(0), let(1), let(2), let(23)
	add, sub, mul, power := of(impl.MaAdd, a, b), of(impl.MaSub, a, b), of(impl.MaMul, a, b), of(impl.MaPower, a, b)
	frac, root := of(impl.MaFrac, a, b), of(impl.MaRoot, a)
	for _, c := range []struct {
		m    impl.Math
		want string
	}{
		{num(0), "#j"}, {num(7), "#g"}, {num(10), "#aj"}, {num(999), "#iii"}, {num(100), "#ajj"}, {num(101), "#aja"}, {a, "a"}, {let(25), "z"}, {let(22), "w"},
		{add, "a+b"}, {sub, "a-b"}, {mul, "a*b"}, {power, "a^b~"}, {frac, "/a:b;"}, {root, "<a>"},
		// Each kind is a part of a sum, first and second.
		{of(impl.MaAdd, add, c), "a+b+c"}, {of(impl.MaAdd, sub, c), "a-b+c"}, {of(impl.MaAdd, mul, c), "a*b+c"}, {of(impl.MaAdd, power, c), "a^b~+c"}, {of(impl.MaAdd, frac, c), "/a:b;+c"}, {of(impl.MaAdd, root, c), "<a>+c"},
		{of(impl.MaAdd, c, add), "c+(a+b)"}, {of(impl.MaAdd, c, sub), "c+(a-b)"}, {of(impl.MaAdd, c, mul), "c+a*b"}, {of(impl.MaAdd, c, power), "c+a^b~"}, {of(impl.MaAdd, c, frac), "c+/a:b;"}, {of(impl.MaAdd, c, root), "c+<a>"},
		{of(impl.MaSub, add, c), "a+b-c"}, {of(impl.MaSub, sub, c), "a-b-c"}, {of(impl.MaSub, mul, c), "a*b-c"}, {of(impl.MaSub, power, c), "a^b~-c"},
		{of(impl.MaSub, c, add), "c-(a+b)"}, {of(impl.MaSub, c, sub), "c-(a-b)"}, {of(impl.MaSub, c, mul), "c-a*b"}, {of(impl.MaSub, c, power), "c-a^b~"},
		// Each kind is a part of a product.
		{of(impl.MaMul, add, c), "(a+b)*c"}, {of(impl.MaMul, sub, c), "(a-b)*c"}, {of(impl.MaMul, mul, c), "a*b*c"}, {of(impl.MaMul, power, c), "a^b~*c"}, {of(impl.MaMul, frac, c), "/a:b;*c"}, {of(impl.MaMul, root, c), "<a>*c"},
		{of(impl.MaMul, c, add), "c*(a+b)"}, {of(impl.MaMul, c, sub), "c*(a-b)"}, {of(impl.MaMul, c, mul), "c*(a*b)"}, {of(impl.MaMul, c, power), "c*a^b~"}, {of(impl.MaMul, c, frac), "c*/a:b;"}, {of(impl.MaMul, c, root), "c*<a>"},
		// Each kind has an exponent, and is one.
		{of(impl.MaPower, add, c), "(a+b)^c~"}, {of(impl.MaPower, sub, c), "(a-b)^c~"}, {of(impl.MaPower, mul, c), "(a*b)^c~"}, {of(impl.MaPower, power, c), "(a^b~)^c~"}, {of(impl.MaPower, frac, c), "/a:b;^c~"}, {of(impl.MaPower, root, c), "<a>^c~"}, {of(impl.MaPower, num(12), c), "#ab^c~"},
		{of(impl.MaPower, c, add), "c^a+b~"}, {of(impl.MaPower, c, sub), "c^a-b~"}, {of(impl.MaPower, c, mul), "c^a*b~"}, {of(impl.MaPower, c, power), "c^a^b~~"}, {of(impl.MaPower, c, frac), "c^/a:b;~"}, {of(impl.MaPower, c, root), "c^<a>~"},
		// Parts of fractions and roots have no brackets.
		{of(impl.MaFrac, add, sub), "/a+b:a-b;"}, {of(impl.MaFrac, mul, power), "/a*b:a^b~;"}, {of(impl.MaFrac, frac, root), "//a:b;:<a>;"}, {of(impl.MaRoot, add), "<a+b>"}, {of(impl.MaRoot, mul), "<a*b>"}, {of(impl.MaRoot, root), "<<a>>"}, {of(impl.MaRoot, power), "<a^b~>"},
		{of(impl.MaMul, of(impl.MaMul, x, add), of(impl.MaPower, sub, num(20))), "x*(a+b)*(a-b)^#bj~"},
	} {
		wantCells(t, "MathCells of "+c.want, impl.MathCells(c.m), signed(c.want))
		wantMath(t, signed(c.want), c.m)
	}
}

func TestMathCellsOfAllKinds(t *testing.T) {
	longest := 0
	for _, m := range formulas() {
		cells := impl.MathCells(m)
		wantCells(t, fmt.Sprintf("MathCells(%v)", m), cells, written(m))
		longest = max(longest, len(cells))
	}
	if longest <= 80 || longest > impl.MaxCells {
		t.Errorf("the longest formula has %d cells", longest)
	}
}

func TestReadMathOfAllShortLists(t *testing.T) {
	known := mathByText(t, 6)
	read := 0
	check := func(text string) {
		if want, ok := known[text]; ok {
			read++
			wantMath(t, signed(text), want)
		} else {
			wantNoMath(t, signed(text))
		}
	}
	for _, text := range textsOf("aj#()+*^~</:;>", 5) {
		check(text)
	}
	for _, text := range textsOf("a-+*()^~#", 6) {
		check(text)
	}
	if read < 200 {
		t.Errorf("only %d formulas are read", read)
	}
}

func TestReadMathOfOtherCells(t *testing.T) {
	for _, text := range []string{
		"",
		// Brackets are not needed, or not there.
		"(a)", "(#a)", "((a+b))*c", "(a*b)+c", "(a+b)+c", "(a-b)-c", "a+(b*c)", "a-(b*c)", "(a*b)*c", "a*(b)", "a*(b^c~)", "(a^b~)*c", "(a)^b~", "(<a>)^b~", "a^(b+c)~", "a^(b)~", "/(a+b):c;", "/a:(b);", "<(a+b)>", "<(a)>", "(/a:b;)^c~", "(#ab)^c~", "(a+b)", "a*((b+c))",
		"a^b~^c~", "a^b~^c~^d~", "<a>^b~^c~",
		// Signs are missing, too many, or in the wrong place.
		"a+", "+a", "-a", "a-", "a*", "*a", "a++b", "a+*b", "a-+b", "a+b+", "ab", "a#a", "a(b+c)", "(a+b)c", "<a>b", "a<b>", "()", "(", ")", "(a", "a)", "(a+b*c", "a+b)*c", "(a+b(*c",
		"a^", "a^b", "a^~", "^a~", "^", "~", "a~", "a^b~~", "a^b)", "(a^b)~", "a^b>", "a+^b~",
		"<", ">", "<>", "<a", "a>", "<a~", "<a;", "<a>>", "<<a>", "<a)",
		"/", ":", ";", "/a", "/a;", "/a:;", "/:b;", "/a:b", "a:b", "a:b;", "/:;", "/a:b:c;", "/a:b;;", "/a:b>", "/a:b~", "/a;b:", "//a:b;", "/a:b+", "/a+:b;",
		// Numbers have no digits, too many, or a zero before others.
		"#", "##", "##a", "#k", "#z", "#+a", "a+#", "#)", "#ja", "#jj", "#jab", "#ajjj", "#aaaa", "#iiii", "#iiiii", "#jjjj", "#a#b", "#aj#b", "#ak", "#aaak", "#aaaaa", "#jjjjjj", "(#aaaa+b)*c", "<#aaaa>", "a+#jb", "a^#jb~",
		"#" + strings.Repeat("j", 199), "#" + strings.Repeat("i", 199), "#a" + strings.Repeat("j", 100) + "+a",
	} {
		wantNoMath(t, signed(text))
	}
	for cell := -3; cell <= 67; cell++ {
		letter := -1
		for n, of := range letterCells {
			if of == cell {
				letter = n
			}
		}
		if letter >= 0 {
			wantMath(t, []int{cell}, let(letter))
			wantMath(t, []int{1, 44, cell}, of(impl.MaAdd, let(0), let(letter)))
			continue
		}
		if cell == impl.SignNumber {
			continue
		}
		for _, cells := range [][]int{{cell}, {1, cell}, {cell, 1}, {1, 44, cell}, {cell, 44, 1}, {60, cell}, {60, 1, cell}, {35, 1, 44, cell, 28, 33, 1}} {
			wantNoMath(t, cells)
		}
	}
	for _, cell := range noCells {
		for _, cells := range [][]int{{cell}, {1, 44, cell}, {cell, 44, 1}, {60, cell}, {60, 1, cell}, {34, cell, 59}, {34, 1, cell}, {1, cell, 1}} {
			wantNoMath(t, cells)
		}
	}
}

func TestReadMathOfLongLists(t *testing.T) {
	for _, part := range []string{"a", "(", "<", "/", "a+", "(a+", "a*(", "/a:", "/(<", "a^", "a-(b*", "<<", "#a", "#j+", "a*", "(a)^"} {
		for _, many := range []int{impl.MaxCells / len(part), impl.MaxCells, impl.MaxCells + 1, 100000} {
			wantNoMath(t, signed(strings.Repeat(part, many)))
		}
	}
	for many := 22; many <= 101; many++ {
		text := strings.Repeat("<", many) + "a" + strings.Repeat(">", many)
		if many <= 23 {
			wantMath(t, signed(text), roots(let(0), many))
		} else {
			wantNoMath(t, signed(text))
		}
		wantNoMath(t, signed(strings.Repeat("(", many)+"a"+strings.Repeat(")", many)))
		wantNoMath(t, signed("a"+strings.Repeat("+a", many)))
		wantNoMath(t, signed("a"+strings.Repeat("^a", many)+strings.Repeat("~", many)))
	}
}

func TestP88FormulasAreTheirPartsAndOneMore(t *testing.T) {
	for _, m := range formulas() {
		want := 1
		for _, part := range m.Kids {
			if impl.MathSize(part) < 1 {
				t.Errorf("MathSize(%v) = %d", part, impl.MathSize(part))
			}
			want += impl.MathSize(part)
		}
		if impl.MathSize(m) != want {
			t.Errorf("MathSize(%v) = %d, want %d", m, impl.MathSize(m), want)
		}
	}
}

func TestP89FormulasAreReadBack(t *testing.T) {
	for _, m := range formulas() {
		wantMath(t, impl.MathCells(m), m)
	}
}

func TestP90BracketsComeInPairs(t *testing.T) {
	for _, m := range formulas() {
		cells := impl.MathCells(m)
		for _, pair := range [][]int{{35, 28}, {57, 12}, {57, 62}, {12, 62}, {24, 56}, {34, 59}} {
			open := 0
			for _, cell := range cells {
				if cell == pair[0] {
					open++
				}
				if cell == pair[1] {
					open--
				}
				if open < 0 {
					t.Errorf("MathCells(%v) = %v closes with %d what is not open", m, cells, pair[1])
					break
				}
			}
			if open != 0 {
				t.Errorf("MathCells(%v) = %v has %d more of %d than of %d", m, cells, open, pair[0], pair[1])
			}
		}
	}
}

func TestP91RootsHaveTheirCellsAroundThem(t *testing.T) {
	for _, m := range formulas() {
		var want []int
		if partCount(m) < impl.MaxMath {
			want = joined([]int{impl.MathRoot}, impl.MathCells(m), []int{impl.MathRootEnd})
		}
		wantCells(t, fmt.Sprintf("MathCells of the root of %v", m), impl.MathCells(of(impl.MaRoot, m)), want)
	}
}

func TestP92SumsStandSideBySide(t *testing.T) {
	for i, m := range formulas() {
		letter := let(i % 26)
		var want []int
		if partCount(m)+2 <= impl.MaxMath {
			want = joined(impl.MathCells(m), []int{impl.MathPlus}, impl.MathCells(letter))
		}
		wantCells(t, fmt.Sprintf("MathCells of the sum of %v and a letter", m), impl.MathCells(of(impl.MaAdd, m, letter)), want)
	}
}

func TestP93FormulasAreWrittenBack(t *testing.T) {
	seq := sequence{54}
	read := 0
	for _, m := range formulas() {
		for range 5 {
			cells := changedMath(&seq, written(m))
			got, ok := impl.ReadMath(cells)
			if !ok {
				continue
			}
			read++
			wantCells(t, fmt.Sprintf("MathCells of ReadMath(%v)", cells), impl.MathCells(got), cells)
			wantCells(t, fmt.Sprintf("the cells of ReadMath(%v)", cells), written(got), cells)
		}
	}
	if read < 1000 {
		t.Errorf("only %d formulas are read", read)
	}
}

// changedMath returns the cells of a formula with a cell that is another one, cut
// out, or put in.
func changedMath(seq *sequence, cells []int) []int {
	from := joined(signCells, letterCells)
	at, cell := seq.next(len(cells)), from[seq.next(len(from))]
	switch seq.next(3) {
	case 0:
		return joined(cells[:at], cells[at+1:])
	case 1:
		return joined(cells[:at], []int{cell}, cells[at:])
	}
	return joined(cells[:at], []int{cell}, cells[at+1:])
}

func TestP193SumsInProductsHaveBrackets(t *testing.T) {
	with, without := 0, 0
	for i, m := range formulas() {
		if partCount(m)+2 > impl.MaxMath {
			continue
		}
		part := impl.MathCells(m)
		if m.Op == impl.MaAdd || m.Op == impl.MaSub || m.Op == impl.MaMul {
			with++
			part = joined([]int{impl.MathOpen}, part, []int{impl.MathClose})
		} else {
			without++
		}
		want := joined([]int{impl.LetterCell(i % 26), impl.MathTimes}, part)
		wantCells(t, fmt.Sprintf("MathCells of the product of a letter and %v", m), impl.MathCells(of(impl.MaMul, let(i%26), m)), want)
	}
	if with < 100 || without < 100 {
		t.Errorf("%d products have brackets, and %d have none", with, without)
	}
}

func TestP194FormulasHaveNoSpaces(t *testing.T) {
	for _, m := range formulas() {
		cells := impl.MathCells(m)
		if len(cells) == 0 {
			t.Errorf("MathCells(%v) is empty", m)
		}
		for i, cell := range cells {
			if cell == 0 || cell == impl.SignNumber && (i+1 == len(cells) || impl.DigitOf(cells[i+1]) < 0) {
				t.Errorf("MathCells(%v) = %v", m, cells)
			}
		}
	}
}

// wantMathApart fails the test if two lists of parts of a formula share memory.
// The formula is of no use any more afterwards.
func wantMathApart(t *testing.T, m impl.Math) {
	t.Helper()
	lists := [][]impl.Math{m.Kids}
	for i := 0; i < len(lists); i++ {
		for _, part := range lists[i] {
			lists = append(lists, part.Kids)
		}
	}
	for i, list := range lists {
		others := fmt.Sprint(lists[i+1:])
		list = list[:cap(list)]
		for k := range list {
			list[k] = num(-7)
		}
		if fmt.Sprint(lists[i+1:]) != others {
			t.Errorf("the parts of a formula share memory")
		}
	}
}

func TestFormulasAreNewMemory(t *testing.T) {
	for _, m := range formulas()[:2000] {
		before, cells := fmt.Sprint(m), written(m)
		fillCapacity(impl.MathCells(m))
		impl.MathSize(m)
		got, _ := impl.ReadMath(cells)
		wantMathApart(t, got)
		wantCells(t, "the cells after the calls", cells, written(m))
		if fmt.Sprint(m) != before {
			t.Errorf("the formula after the calls is %v, and was %s", m, before)
		}
		wantCells(t, "MathCells after a change of its result", impl.MathCells(m), written(m))
		wantMath(t, cells, m)
	}
}
