package tests

import (
	"fmt"
	"testing"

	"loop.example/braille/impl"
)

func TestConstantsOfProofs(t *testing.T) {
	if impl.MaxProof != 30 || impl.CellCost != 4 {
		t.Errorf("MaxProof and CellCost are %d and %d", impl.MaxProof, impl.CellCost)
	}
	wantCells(t, "the kinds of cells", []int{impl.FdSame, impl.FdMissing, impl.FdExtra, impl.FdMoved, impl.FdOther}, []int{0, 1, 2, 3, 4})
	wantCells(t, "the kinds of faults", []int{impl.FaSwap, impl.FaCut, impl.FaPut}, []int{0, 1, 2})
}

func TestKindOf(t *testing.T) {
	for _, c := range []struct {
		got, want string
		kind      int
	}{
		{"1", "1", impl.FdSame}, {"123456", "123456", impl.FdSame}, {"1", "12", impl.FdMissing}, {"12", "123456", impl.FdMissing}, {"12", "1", impl.FdExtra}, {"123456", "5", impl.FdExtra},
		{"1", "2", impl.FdMoved}, {"12", "13", impl.FdMoved}, {"123", "456", impl.FdMoved}, {"1", "23", impl.FdOther}, {"23", "1", impl.FdOther}, {"12", "134", impl.FdOther}, {"1346", "25", impl.FdOther}, {"12345", "6", impl.FdOther},
	} {
		if got := impl.KindOf(cellOfDots(c.got), cellOfDots(c.want)); got != c.kind {
			t.Errorf("KindOf(%s, %s) = %d, want %d", c.got, c.want, got, c.kind)
		}
	}
	if impl.KindOf(0, 0) != impl.FdSame || impl.KindOf(0, 1) != impl.FdMissing || impl.KindOf(63, 0) != impl.FdExtra {
		t.Error("KindOf a cell without dots")
	}
	for got := range 64 {
		for want := range 64 {
			missing, extra := 0, 0
			for dot := 1; dot <= 6; dot++ {
				switch count(impl.DotsOf(got), dot) - count(impl.DotsOf(want), dot) {
				case -1:
					missing++
				case 1:
					extra++
				}
			}
			kind := impl.FdOther
			switch {
			case missing == 0 && extra == 0:
				kind = impl.FdSame
			case extra == 0:
				kind = impl.FdMissing
			case missing == 0:
				kind = impl.FdExtra
			case missing == extra:
				kind = impl.FdMoved
			}
			if impl.KindOf(got, want) != kind {
				t.Errorf("KindOf(%d, %d) = %d, want %d", got, want, impl.KindOf(got, want), kind)
			}
		}
		for _, n := range noCells {
			if impl.KindOf(got, n) != -1 || impl.KindOf(n, got) != -1 || impl.KindOf(n, n) != -1 {
				t.Errorf("KindOf(%d, %d) or the other way is not -1", got, n)
			}
		}
	}
}

func TestProofCost(t *testing.T) {
	for _, c := range []struct {
		a, b []int
		cost int
	}{
		{nil, nil, 0}, {nil, []int{0}, 4}, {[]int{63}, nil, 4}, {[]int{0}, []int{63}, 6}, {[]int{7}, []int{56}, 6}, {[]int{1}, []int{1}, 0}, {[]int{1}, []int{2}, 2}, {[]int{1, 3}, []int{3}, 4}, {[]int{1, 3}, []int{3, 1}, 2},
		// Cutting out and putting in is cheaper than replacing many cells.
		{[]int{0, 63, 0, 63}, []int{63, 0, 63, 0}, 8}, {[]int{0, 63}, []int{63, 0}, 8}, {[]int{0, 63, 0}, []int{63, 0, 0}, 8}, {[]int{63, 1, 2, 4, 8}, []int{1, 2, 4, 8}, 4},
		{filled(30, 0), filled(30, 63), 180}, {filled(30, 5), filled(30, 5), 0}, {filled(30, 5), nil, 120}, {nil, filled(30, 5), 120}, {filled(29, 5), filled(30, 5), 4},
	} {
		if got := impl.ProofCost(c.a, c.b); got != c.cost {
			t.Errorf("ProofCost(%v, %v) = %d, want %d", c.a, c.b, got, c.cost)
		}
	}
	eachProof(func(a, b []int) {
		if got := impl.ProofCost(a, b); got != costBetween(a, b) {
			t.Errorf("ProofCost(%v, %v) = %d, want %d", a, b, got, costBetween(a, b))
		}
	})
}

func TestProofsOfOtherCells(t *testing.T) {
	for _, list := range noProofs() {
		for _, good := range [][]int{nil, {1}, filled(30, 1)} {
			for _, pair := range [][2][]int{{list, good}, {good, list}, {list, list}} {
				if got := impl.ProofCost(pair[0], pair[1]); got != -1 {
					t.Errorf("ProofCost(%.100s) = %d", fmt.Sprint(pair), got)
				}
				if got := impl.ProofSteps(pair[0], pair[1]); len(got) > 0 {
					t.Errorf("ProofSteps(%.100s) = %v", fmt.Sprint(pair), got)
				}
			}
		}
		for _, faults := range [][]impl.Fault{nil, {fault(impl.FaPut, 0, 1)}, {fault(impl.FaCut, 0, 1)}, {fault(impl.FaSwap, 0, 2)}} {
			if got, ok := impl.FixFaults(list, faults); ok || len(got) > 0 {
				t.Errorf("FixFaults(%.100s, %v) = %v, %t", fmt.Sprint(list), faults, got, ok)
			}
		}
	}
}

func TestProofSteps(t *testing.T) {
	for _, c := range []struct {
		a, b   []int
		faults []impl.Fault
	}{
		{nil, nil, nil}, {[]int{5, 6}, []int{5, 6}, nil}, {[]int{1}, []int{2}, []impl.Fault{fault(0, 0, 2)}}, {[]int{1}, nil, []impl.Fault{fault(1, 0, 1)}}, {nil, []int{1, 2}, []impl.Fault{fault(2, 0, 1), fault(2, 0, 2)}},
		// The first one of equal cells is kept, and the second one cut out.
		{[]int{5, 5}, []int{5}, []impl.Fault{fault(1, 1, 5)}}, {[]int{5}, []int{5, 5}, []impl.Fault{fault(2, 1, 5)}},
		// A cell is replaced rather than another one cut out, if both cost as much.
		{[]int{15, 0}, []int{0}, []impl.Fault{fault(1, 0, 15)}}, {[]int{15, 0}, []int{0, 0}, []impl.Fault{fault(0, 0, 0)}}, {[]int{0, 63}, []int{63, 0}, []impl.Fault{fault(1, 0, 0), fault(2, 2, 0)}},
		{[]int{15, 15}, []int{0, 15}, []impl.Fault{fault(0, 0, 0)}}, {[]int{1, 3, 5}, []int{1, 7, 5, 2}, []impl.Fault{fault(0, 1, 7), fault(2, 3, 2)}},
	} {
		if got := impl.ProofSteps(c.a, c.b); fmt.Sprint(got) != fmt.Sprint(c.faults) {
			t.Errorf("ProofSteps(%v, %v) = %v, want %v", c.a, c.b, got, c.faults)
		}
	}
	eachProof(func(a, b []int) {
		if got, want := impl.ProofSteps(a, b), stepsFound(a, b); fmt.Sprint(got) != fmt.Sprint(want) {
			t.Errorf("ProofSteps(%v, %v) = %v, want %v", a, b, got, want)
		}
	})
}

func TestProofsOfFewCells(t *testing.T) {
	short := allLists([]int{0, 1, 15, 63}, 3)
	for _, a := range short {
		for _, b := range short {
			ways := waysToProof(a, b, 0, 0)
			best := ways[0]
			for _, way := range ways {
				// Of several ways with the least cost the first one is preferred.
				if costOfFaults(a, way) < costOfFaults(a, best) {
					best = way
				}
			}
			if got := impl.ProofCost(a, b); got != costOfFaults(a, best) {
				t.Errorf("ProofCost(%v, %v) = %d, want %d", a, b, got, costOfFaults(a, best))
			}
			if got := impl.ProofSteps(a, b); fmt.Sprint(got) != fmt.Sprint(best) {
				t.Errorf("ProofSteps(%v, %v) = %v, want %v", a, b, got, best)
			}
		}
	}
}

func TestFixFaults(t *testing.T) {
	a := []int{1, 3, 5}
	for _, c := range []struct {
		faults []impl.Fault
		want   []int
	}{
		{nil, a}, {[]impl.Fault{fault(0, 0, 0)}, []int{0, 3, 5}}, {[]impl.Fault{fault(1, 0, 1)}, []int{3, 5}}, {[]impl.Fault{fault(2, 0, 1)}, []int{1, 1, 3, 5}}, {[]impl.Fault{fault(2, 3, 0)}, []int{1, 3, 5, 0}}, {[]impl.Fault{fault(2, 3, 7), fault(2, 3, 8)}, []int{1, 3, 5, 7, 8}},
		{[]impl.Fault{fault(1, 0, 1), fault(1, 1, 3), fault(1, 2, 5)}, nil}, {[]impl.Fault{fault(2, 1, 9), fault(0, 1, 8), fault(2, 2, 7), fault(1, 2, 5), fault(2, 3, 6)}, []int{1, 9, 8, 7, 6}},
	} {
		if got, ok := impl.FixFaults(a, c.faults); !ok || !equal(got, c.want) {
			t.Errorf("FixFaults(%v) = %v, %t, want %v", c.faults, got, ok, c.want)
		}
	}
	for _, faults := range [][]impl.Fault{
		// A cell is not replaced by itself, and another one is not cut out.
		{fault(0, 0, 1)}, {fault(0, 2, 5)}, {fault(1, 0, 3)}, {fault(1, 2, 0)},
		// There is no cell at the end to replace or to cut out.
		{fault(0, 3, 0)}, {fault(1, 3, 0)}, {fault(1, 3, 5)}, {fault(0, 4, 1)}, {fault(1, 4, 1)}, {fault(2, 4, 1)}, {fault(0, -1, 0)}, {fault(1, -1, 1)}, {fault(2, -1, 1)},
		// The faults are not in order.
		{fault(2, 1, 1), fault(2, 0, 1)}, {fault(1, 1, 3), fault(1, 0, 1)}, {fault(1, 0, 1), fault(1, 0, 1)}, {fault(0, 0, 2), fault(0, 0, 3)}, {fault(0, 0, 2), fault(1, 0, 2)}, {fault(0, 0, 2), fault(1, 0, 1)}, {fault(0, 1, 2), fault(2, 1, 2)}, {fault(1, 1, 3), fault(2, 1, 2)}, {fault(2, 3, 1), fault(1, 2, 5)},
		{fault(3, 0, 1)}, {fault(-1, 0, 1)}, {fault(3, 0, 2)}, {fault(1<<32, 0, 2)}, {fault(2, 0, 64)}, {fault(2, 0, -1)}, {fault(0, 0, 64)}, {fault(1, 0, 64)}, {fault(2, 0, 1), fault(2, 0, 64)},
	} {
		if got, ok := impl.FixFaults(a, faults); ok || len(got) > 0 {
			t.Errorf("FixFaults(%v) = %v, %t", faults, got, ok)
		}
	}
	for _, n := range append(noCells, far...) {
		for _, kind := range []int{0, 1, 2} {
			for _, f := range []impl.Fault{fault(kind, n, 1), fault(kind, 0, n), fault(n, 0, kind)} {
				if n == 1 && f.Kind == 1 {
					continue
				}
				if got, ok := impl.FixFaults(a, []impl.Fault{f}); ok || len(got) > 0 {
					t.Errorf("FixFaults(%v) = %v, %t", f, got, ok)
				}
			}
		}
	}
}

func TestFixFaultsOfAllKinds(t *testing.T) {
	var all []impl.Fault
	for kind := -1; kind <= 3; kind++ {
		for at := -1; at <= 3; at++ {
			for _, cell := range []int{-1, 0, 1, 3, 64} {
				all = append(all, fault(kind, at, cell))
			}
		}
	}
	var good []impl.Fault
	for kind := 0; kind <= 2; kind++ {
		for at := range 4 {
			good = append(good, fault(kind, at, 1), fault(kind, at, 3))
		}
	}
	for _, a := range allLists([]int{1, 3}, 3) {
		wantFix(t, a, nil)
		for _, first := range all {
			wantFix(t, a, []impl.Fault{first})
			for _, second := range all {
				wantFix(t, a, []impl.Fault{first, second})
			}
		}
		for _, first := range good {
			for _, second := range good {
				for _, third := range good {
					wantFix(t, a, []impl.Fault{first, second, third})
				}
			}
		}
	}
	eachFix(func(a []int, faults []impl.Fault) { wantFix(t, a, faults) })
}

func TestFixFaultsAtTheLimit(t *testing.T) {
	for many := 27; many <= 32; many++ {
		for puts := range 33 {
			for cuts := range 5 {
				a := filled(many, 1)
				var faults []impl.Fault
				for at := range many + 1 {
					if at == 2 || at == many {
						for range puts / 2 {
							faults = append(faults, fault(impl.FaPut, at, 5))
						}
					}
					if at < cuts {
						faults = append(faults, fault(impl.FaCut, at, 1))
					}
				}
				after := many + puts/2*2 - cuts
				got, ok := impl.FixFaults(a, faults)
				if ok != (many <= 30 && after <= 30) || ok && len(got) != after || !ok && len(got) > 0 {
					t.Errorf("FixFaults of %d cells with %v = %v, %t", many, faults, got, ok)
				}
			}
		}
	}
	// One cell is put in, or one more than are cut out, and there are none or
	// many cells behind it.
	for many := 28; many <= 30; many++ {
		a := filled(many, 1)
		for at := range many + 1 {
			for puts := 1; puts <= 3; puts++ {
				var faults []impl.Fault
				for range puts {
					faults = append(faults, fault(impl.FaPut, at, 5))
				}
				wantFix(t, a, faults)
				if at < many {
					wantFix(t, a, append(faults, fault(impl.FaCut, at, 1)))
				}
				if at > 0 {
					wantFix(t, a, append([]impl.Fault{fault(impl.FaCut, at-1, 1)}, faults...))
				}
			}
		}
	}
	// All cells are cut out, and as many are put in, before or behind them.
	var before, behind, last []impl.Fault
	for at := range 30 {
		before = append(before, fault(impl.FaPut, 0, at))
		behind = append(behind, fault(impl.FaCut, at, 1))
		last = append(last, fault(impl.FaPut, 30, at))
	}
	want := rising(30, 0, 1)
	for _, faults := range [][]impl.Fault{append(append([]impl.Fault{}, before...), behind...), append(append([]impl.Fault{}, behind...), last...)} {
		if got, ok := impl.FixFaults(filled(30, 1), faults); !ok || !equal(got, want) {
			t.Errorf("FixFaults(%v) = %v, %t", faults, got, ok)
		}
	}
	if got, ok := impl.FixFaults(nil, nil); !ok || len(got) > 0 {
		t.Errorf("FixFaults of nothing = %v, %t", got, ok)
	}
	for many := 29; many <= 32; many++ {
		var faults []impl.Fault
		for range many {
			faults = append(faults, fault(impl.FaPut, 0, 1))
		}
		if got, ok := impl.FixFaults(nil, faults); ok != (many <= 30) || ok && !equal(got, filled(many, 1)) {
			t.Errorf("FixFaults with %d cells to put in = %v, %t", many, got, ok)
		}
	}
	huge := make([]impl.Fault, 1000000)
	for i := range huge {
		huge[i] = fault(impl.FaPut, 0, 1)
	}
	if got, ok := impl.FixFaults([]int{1}, huge); ok || len(got) > 0 {
		t.Errorf("FixFaults with a million cells to put in = %v, %t", got, ok)
	}
}

func TestP160RightCellsAreRight(t *testing.T) {
	for got := range 64 {
		for want := range 64 {
			kind, back := impl.KindOf(got, want), impl.KindOf(want, got)
			if (kind == impl.FdSame) != (got == want) || (kind == impl.FdMissing) != (back == impl.FdExtra) || (kind == impl.FdExtra) != (back == impl.FdMissing) {
				t.Errorf("KindOf(%d, %d) = %d, and %d the other way", got, want, kind, back)
			}
		}
	}
}

func TestP161FaultsLookTheSameFromBehind(t *testing.T) {
	for got := range 64 {
		for want := range 64 {
			if kind, seen := impl.KindOf(got, want), impl.KindOf(impl.Mirror(got), impl.Mirror(want)); kind != seen {
				t.Errorf("KindOf(%d, %d) = %d, and %d from behind", got, want, kind, seen)
			}
		}
	}
}

func TestP162CostsHaveNoDirection(t *testing.T) {
	eachProof(func(a, b []int) {
		cost := impl.ProofCost(a, b)
		if back := impl.ProofCost(b, a); back != cost || (cost == 0) != equal(a, b) || cost < 4*max(len(a)-len(b), len(b)-len(a)) {
			t.Errorf("ProofCost(%v, %v) = %d, and %d the other way", a, b, cost, back)
		}
	})
}

func TestP163WaysRoundCostNoLess(t *testing.T) {
	check := func(a, b, way []int) {
		straight, first, second := impl.ProofCost(a, b), impl.ProofCost(a, way), impl.ProofCost(way, b)
		if straight < 0 || first < 0 || second < 0 || straight > first+second {
			t.Errorf("ProofCost(%v, %v) = %d, and by way of %v %d and %d", a, b, straight, way, first, second)
		}
	}
	short := allLists([]int{0, 1, 3, 62}, 2)
	for _, a := range short {
		for _, b := range short {
			for _, way := range short {
				check(a, b, way)
			}
		}
	}
	seq := sequence{134}
	for _, pair := range fewProofs() {
		check(pair[0], pair[1], nearList(&seq, pair[0]))
		check(pair[0], pair[1], proofList(&seq, seq.next(31)))
	}
}

func TestP164CostsAreTheSameFromBehind(t *testing.T) {
	eachProof(func(a, b []int) {
		if cost, seen := impl.ProofCost(a, b), impl.ProofCost(mirrorList(a), mirrorList(b)); cost != seen {
			t.Errorf("ProofCost(%v, %v) = %d, and %d from behind", a, b, cost, seen)
		}
	})
}

func TestP165FaultsCanBePutRight(t *testing.T) {
	eachProof(func(a, b []int) {
		faults := impl.ProofSteps(a, b)
		if got, ok := impl.FixFaults(a, faults); !ok || !equal(got, b) {
			t.Errorf("FixFaults(%v, %v) = %v, %t, want %v", a, faults, got, ok, b)
		}
	})
}

func TestP166FaultsCostWhatTheyCost(t *testing.T) {
	eachProof(func(a, b []int) {
		faults := impl.ProofSteps(a, b)
		if !inOrder(a, faults) || costOfFaults(a, faults) != impl.ProofCost(a, b) {
			t.Errorf("ProofSteps(%v, %v) = %v, and ProofCost is %d", a, b, faults, impl.ProofCost(a, b))
		}
	})
}

func TestP167RightCellsNeedNoFixing(t *testing.T) {
	fixes := 0
	eachFix(func(a []int, faults []impl.Fault) {
		if got, ok := impl.FixFaults(a, nil); !ok || !equal(got, a) {
			t.Errorf("FixFaults(%v) of no faults = %v, %t", a, got, ok)
		}
		fixed, _ := impl.FixFaults(a, faults)
		if cost := impl.ProofCost(a, fixed); cost < 0 || cost > costOfFaults(a, faults) {
			t.Errorf("ProofCost(%v, %v) = %d, but the faults are %v", a, fixed, cost, faults)
		}
		fixes++
	})
	if fixes < 1000 {
		t.Errorf("only %d lists are fixed", fixes)
	}
}

func TestP168CellsArePutInAndCutOut(t *testing.T) {
	eachFix(func(a []int, faults []impl.Fault) {
		many := len(a)
		for _, f := range faults {
			switch f.Kind {
			case impl.FaPut:
				many++
			case impl.FaCut:
				many--
			}
		}
		if got, ok := impl.FixFaults(a, faults); !ok || len(got) != many {
			t.Errorf("FixFaults(%v, %v) = %v, %t", a, faults, got, ok)
		}
	})
}

func TestP180ContractionsAreFoundByProofs(t *testing.T) {
	found, tooMany := 0, 0
	eachText(func(table []impl.Rule, text string) {
		if len(text) <= 3 {
			return
		}
		plain, short := impl.PlainCells(text), impl.TextCells(table, text)
		faults := impl.ProofSteps(plain, short)
		if len(plain) > 30 || len(short) > 30 {
			tooMany++
			if len(faults) > 0 {
				t.Errorf("ProofSteps(%v, %v) = %v", plain, short, faults)
			}
			return
		}
		if len(faults) > 0 {
			found++
		}
		if got, ok := impl.FixFaults(plain, faults); !ok || !equal(got, short) {
			t.Errorf("FixFaults(%v, %v) = %v, %t, want %v", plain, faults, got, ok, short)
		}
	})
	if found < 1000 || tooMany < 1000 {
		t.Errorf("%d texts are contracted, and %d have too many cells", found, tooMany)
	}
}

func TestP201PartsCanBeComparedApart(t *testing.T) {
	eachProof(func(a, b []int) {
		first := impl.ProofCost(a[:len(a)/2], b[:len(b)/2])
		second := impl.ProofCost(a[len(a)/2:], b[len(b)/2:])
		if cost := impl.ProofCost(a, b); first < 0 || second < 0 || cost < 0 || cost > first+second {
			t.Errorf("ProofCost(%v, %v) = %d, and of the halves %d and %d", a, b, cost, first, second)
		}
	})
}

func TestP202MissingDotsAreMissing(t *testing.T) {
	kinds := [5]int{}
	for got := range 64 {
		for want := range 64 {
			kind := impl.KindOf(got, want)
			if kind < 0 || kind > 4 {
				t.Fatalf("KindOf(%d, %d) = %d", got, want, kind)
			}
			kinds[kind]++
			more := len(impl.DotsOf(got)) - len(impl.DotsOf(want))
			if kind == impl.FdMissing && more >= 0 || kind == impl.FdExtra && more <= 0 || kind == impl.FdMoved && more != 0 {
				t.Errorf("KindOf(%d, %d) = %d, with %d dots more", got, want, kind, more)
			}
		}
	}
	// There are 3^6 pairs of a cell and a part of it, 64 of them the cell itself,
	// and 924 pairs of cells with as many dots.
	if kinds != [5]int{64, 665, 665, 860, 1842} {
		t.Errorf("there are %v pairs of each kind", kinds)
	}
}

func TestProofsAreNewMemory(t *testing.T) {
	all := []int{1, 3, 5, 7, 9, 11, 13, 60, 60, 60}
	before := fmt.Sprint(all)
	a, b := all[0:4], all[4:7]
	faults := impl.ProofSteps(a, b)
	want := fmt.Sprint(faults)
	for _, of := range [][]impl.Fault{nil, faults, {fault(impl.FaCut, 3, 7)}, {fault(impl.FaPut, 4, 2)}, {fault(impl.FaSwap, 0, 2)}} {
		written := fmt.Sprint(of)
		fixed, ok := impl.FixFaults(a, of)
		if !ok {
			t.Errorf("FixFaults(%v, %v) is false", a, of)
		}
		fillCapacity(fixed)
		if fmt.Sprint(all) != before || fmt.Sprint(of) != written {
			t.Errorf("FixFaults(%v) changes its arguments to %v, %v", written, all, of)
		}
	}
	for i := range faults[:cap(faults)] {
		faults[:cap(faults)][i] = fault(9, 9, 9)
	}
	if again := fmt.Sprint(impl.ProofSteps(a, b)); again != want || fmt.Sprint(all) != before {
		t.Errorf("ProofSteps = %s at first, and then %s", want, again)
	}
}
