/-
  No cell of these rows narrows 'for every input' (looked for: loops, veiled, ifaces, maps, wideKeys, modest, calm, conditions, laid).
  DERIVED. THE GIVEN ROWS OF THIS SEAT. 14 by the template 'for every input the law returns true; each argument reads behind the call as it read before'; 0 by the template 'total and deterministic' (their statements: YthpbpdnlnmldeaaTotals.lean).
  GIVEN WITH THE SEED: the statements are not yours to turn. If you find one false, say at which input.
  Laid BY PROGRAM, IN A SANDBOX (cutbox-rows.mjs): the forced cells as the released guide's own fill.sh prints them over the translation bc74cdea18a09204… (all of the seat's roots in one cut). By AI agents, Wed Nov 11 2026. No macro, syntax, notation, axiom, sorry.
-/
import Derived.Test.YthpbpdnlnmldeaaChecked
import GoSem.Claim
import GoSem.ClaimJoined
import GoSem.ClaimMapViews
import Derived.JoinedTies
import Derived.KernelRfl
namespace Go.Proofs.Ythpbpdnlnmldeaa
/- THE CELL 'sum', in the pinned program and in every row, IS THE sha256 OF THE DUMP (.gsa) THAT YthpbpdnlnmldeaaProg.lean LOADS. Nothing in Lean hashes anything: it is a label: what it is worth is what the hold of that sum in a sandbox is worth. -/
noncomputable def Try.pinned : Pinned := { name := "ythpbpdnlnmldeaa", sum := "bc74cdea18a092048e5820a214a246263c03dc7ce5c647bcef7e3d69b95898ed", checked := Try.checked }
namespace Rows
def none {H : Type} : Left H := { results := [], args := [] }

/-- 'laws.FnDotsApart': WHATEVER THE INPUT: true; the input reads as it did. -/
def fnDotsApartSpec : ChangeSpec := { name := "fnDotsApart", fn := fun _ => fun
  | [d] => { results := [.lit (.bool true)], args := [d] }
  | _ => none }
def fnDotsApartRow : OpenClaim := { program := "ythpbpdnlnmldeaa", sum := "bc74cdea18a092048e5820a214a246263c03dc7ce5c647bcef7e3d69b95898ed", func := "loop.example/braille/laws.FnDotsApart", spec := "fnDotsApart", apart := false }
def FnDotsApartSaid : Prop := fnDotsApartRow.holds Try.pinned (OpenSpec.ofChange fnDotsApartSpec)

/-- ITS FALSE NEIGHBOUR: 'it returns false'. Refute it at one input. -/
def fnDotsApartWrong : ChangeSpec := { name := "fnDotsApart", fn := fun _ => fun
  | [d] => { results := [.lit (.bool false)], args := [d] }
  | _ => none }
def FnDotsApartWrongFalsely : Prop := fnDotsApartRow.holds Try.pinned (OpenSpec.ofChange fnDotsApartWrong)

/-- 'laws.FnThin': WHATEVER THE INPUT: true; the input reads as it did. -/
def fnThinSpec : ChangeSpec := { name := "fnThin", fn := fun _ => fun
  | [d] => { results := [.lit (.bool true)], args := [d] }
  | _ => none }
def fnThinRow : OpenClaim := { program := "ythpbpdnlnmldeaa", sum := "bc74cdea18a092048e5820a214a246263c03dc7ce5c647bcef7e3d69b95898ed", func := "loop.example/braille/laws.FnThin", spec := "fnThin", apart := false }
def FnThinSaid : Prop := fnThinRow.holds Try.pinned (OpenSpec.ofChange fnThinSpec)

/-- ITS FALSE NEIGHBOUR: 'it returns false'. Refute it at one input. -/
def fnThinWrong : ChangeSpec := { name := "fnThin", fn := fun _ => fun
  | [d] => { results := [.lit (.bool false)], args := [d] }
  | _ => none }
def FnThinWrongFalsely : Prop := fnThinRow.holds Try.pinned (OpenSpec.ofChange fnThinWrong)

/-- 'laws.FnThinFull': WHATEVER THE INPUT: true; the input reads as it did. -/
def fnThinFullSpec : ChangeSpec := { name := "fnThinFull", fn := fun _ => fun
  | [d] => { results := [.lit (.bool true)], args := [d] }
  | _ => none }
def fnThinFullRow : OpenClaim := { program := "ythpbpdnlnmldeaa", sum := "bc74cdea18a092048e5820a214a246263c03dc7ce5c647bcef7e3d69b95898ed", func := "loop.example/braille/laws.FnThinFull", spec := "fnThinFull", apart := false }
def FnThinFullSaid : Prop := fnThinFullRow.holds Try.pinned (OpenSpec.ofChange fnThinFullSpec)

/-- ITS FALSE NEIGHBOUR: 'it returns false'. Refute it at one input. -/
def fnThinFullWrong : ChangeSpec := { name := "fnThinFull", fn := fun _ => fun
  | [d] => { results := [.lit (.bool false)], args := [d] }
  | _ => none }
def FnThinFullWrongFalsely : Prop := fnThinFullRow.holds Try.pinned (OpenSpec.ofChange fnThinFullWrong)

/-- 'laws.FnThinTwice': WHATEVER THE INPUT: true; the input reads as it did. -/
def fnThinTwiceSpec : ChangeSpec := { name := "fnThinTwice", fn := fun _ => fun
  | [d] => { results := [.lit (.bool true)], args := [d] }
  | _ => none }
def fnThinTwiceRow : OpenClaim := { program := "ythpbpdnlnmldeaa", sum := "bc74cdea18a092048e5820a214a246263c03dc7ce5c647bcef7e3d69b95898ed", func := "loop.example/braille/laws.FnThinTwice", spec := "fnThinTwice", apart := false }
def FnThinTwiceSaid : Prop := fnThinTwiceRow.holds Try.pinned (OpenSpec.ofChange fnThinTwiceSpec)

/-- ITS FALSE NEIGHBOUR: 'it returns false'. Refute it at one input. -/
def fnThinTwiceWrong : ChangeSpec := { name := "fnThinTwice", fn := fun _ => fun
  | [d] => { results := [.lit (.bool false)], args := [d] }
  | _ => none }
def FnThinTwiceWrongFalsely : Prop := fnThinTwiceRow.holds Try.pinned (OpenSpec.ofChange fnThinTwiceWrong)

/-- 'laws.FnThinRegions': WHATEVER THE INPUT: true; the input reads as it did. -/
def fnThinRegionsSpec : ChangeSpec := { name := "fnThinRegions", fn := fun _ => fun
  | [d] => { results := [.lit (.bool true)], args := [d] }
  | _ => none }
def fnThinRegionsRow : OpenClaim := { program := "ythpbpdnlnmldeaa", sum := "bc74cdea18a092048e5820a214a246263c03dc7ce5c647bcef7e3d69b95898ed", func := "loop.example/braille/laws.FnThinRegions", spec := "fnThinRegions", apart := false }
def FnThinRegionsSaid : Prop := fnThinRegionsRow.holds Try.pinned (OpenSpec.ofChange fnThinRegionsSpec)

/-- ITS FALSE NEIGHBOUR: 'it returns false'. Refute it at one input. -/
def fnThinRegionsWrong : ChangeSpec := { name := "fnThinRegions", fn := fun _ => fun
  | [d] => { results := [.lit (.bool false)], args := [d] }
  | _ => none }
def FnThinRegionsWrongFalsely : Prop := fnThinRegionsRow.holds Try.pinned (OpenSpec.ofChange fnThinRegionsWrong)

/-- 'laws.FnThinMany': WHATEVER THE INPUT: true; the input reads as it did. -/
def fnThinManySpec : ChangeSpec := { name := "fnThinMany", fn := fun _ => fun
  | [d] => { results := [.lit (.bool true)], args := [d] }
  | _ => none }
def fnThinManyRow : OpenClaim := { program := "ythpbpdnlnmldeaa", sum := "bc74cdea18a092048e5820a214a246263c03dc7ce5c647bcef7e3d69b95898ed", func := "loop.example/braille/laws.FnThinMany", spec := "fnThinMany", apart := false }
def FnThinManySaid : Prop := fnThinManyRow.holds Try.pinned (OpenSpec.ofChange fnThinManySpec)

/-- ITS FALSE NEIGHBOUR: 'it returns false'. Refute it at one input. -/
def fnThinManyWrong : ChangeSpec := { name := "fnThinMany", fn := fun _ => fun
  | [d] => { results := [.lit (.bool false)], args := [d] }
  | _ => none }
def FnThinManyWrongFalsely : Prop := fnThinManyRow.holds Try.pinned (OpenSpec.ofChange fnThinManyWrong)

/-- 'laws.FnGrow': WHATEVER THE INPUT: true; the input reads as it did. -/
def fnGrowSpec : ChangeSpec := { name := "fnGrow", fn := fun _ => fun
  | [d] => { results := [.lit (.bool true)], args := [d] }
  | _ => none }
def fnGrowRow : OpenClaim := { program := "ythpbpdnlnmldeaa", sum := "bc74cdea18a092048e5820a214a246263c03dc7ce5c647bcef7e3d69b95898ed", func := "loop.example/braille/laws.FnGrow", spec := "fnGrow", apart := false }
def FnGrowSaid : Prop := fnGrowRow.holds Try.pinned (OpenSpec.ofChange fnGrowSpec)

/-- ITS FALSE NEIGHBOUR: 'it returns false'. Refute it at one input. -/
def fnGrowWrong : ChangeSpec := { name := "fnGrow", fn := fun _ => fun
  | [d] => { results := [.lit (.bool false)], args := [d] }
  | _ => none }
def FnGrowWrongFalsely : Prop := fnGrowRow.holds Try.pinned (OpenSpec.ofChange fnGrowWrong)

/-- 'laws.FnGrowRegions': WHATEVER THE INPUT: true; the input reads as it did. -/
def fnGrowRegionsSpec : ChangeSpec := { name := "fnGrowRegions", fn := fun _ => fun
  | [d] => { results := [.lit (.bool true)], args := [d] }
  | _ => none }
def fnGrowRegionsRow : OpenClaim := { program := "ythpbpdnlnmldeaa", sum := "bc74cdea18a092048e5820a214a246263c03dc7ce5c647bcef7e3d69b95898ed", func := "loop.example/braille/laws.FnGrowRegions", spec := "fnGrowRegions", apart := false }
def FnGrowRegionsSaid : Prop := fnGrowRegionsRow.holds Try.pinned (OpenSpec.ofChange fnGrowRegionsSpec)

/-- ITS FALSE NEIGHBOUR: 'it returns false'. Refute it at one input. -/
def fnGrowRegionsWrong : ChangeSpec := { name := "fnGrowRegions", fn := fun _ => fun
  | [d] => { results := [.lit (.bool false)], args := [d] }
  | _ => none }
def FnGrowRegionsWrongFalsely : Prop := fnGrowRegionsRow.holds Try.pinned (OpenSpec.ofChange fnGrowRegionsWrong)

/-- 'laws.FnRegions': WHATEVER THE INPUT: true; the input reads as it did. -/
def fnRegionsSpec : ChangeSpec := { name := "fnRegions", fn := fun _ => fun
  | [d] => { results := [.lit (.bool true)], args := [d] }
  | _ => none }
def fnRegionsRow : OpenClaim := { program := "ythpbpdnlnmldeaa", sum := "bc74cdea18a092048e5820a214a246263c03dc7ce5c647bcef7e3d69b95898ed", func := "loop.example/braille/laws.FnRegions", spec := "fnRegions", recurses := true, apart := false }
def FnRegionsSaid : Prop := fnRegionsRow.holds Try.pinned (OpenSpec.ofChange fnRegionsSpec)

/-- ITS FALSE NEIGHBOUR: 'it returns false'. Refute it at one input. -/
def fnRegionsWrong : ChangeSpec := { name := "fnRegions", fn := fun _ => fun
  | [d] => { results := [.lit (.bool false)], args := [d] }
  | _ => none }
def FnRegionsWrongFalsely : Prop := fnRegionsRow.holds Try.pinned (OpenSpec.ofChange fnRegionsWrong)

/-- 'laws.FnRegionsDot': WHATEVER THE INPUT: true; the input reads as it did. -/
def fnRegionsDotSpec : ChangeSpec := { name := "fnRegionsDot", fn := fun _ => fun
  | [d] => { results := [.lit (.bool true)], args := [d] }
  | _ => none }
def fnRegionsDotRow : OpenClaim := { program := "ythpbpdnlnmldeaa", sum := "bc74cdea18a092048e5820a214a246263c03dc7ce5c647bcef7e3d69b95898ed", func := "loop.example/braille/laws.FnRegionsDot", spec := "fnRegionsDot", recurses := true, apart := false }
def FnRegionsDotSaid : Prop := fnRegionsDotRow.holds Try.pinned (OpenSpec.ofChange fnRegionsDotSpec)

/-- ITS FALSE NEIGHBOUR: 'it returns false'. Refute it at one input. -/
def fnRegionsDotWrong : ChangeSpec := { name := "fnRegionsDot", fn := fun _ => fun
  | [d] => { results := [.lit (.bool false)], args := [d] }
  | _ => none }
def FnRegionsDotWrongFalsely : Prop := fnRegionsDotRow.holds Try.pinned (OpenSpec.ofChange fnRegionsDotWrong)

/-- 'laws.FnExactDotsApart': WHATEVER THE INPUT: true; the input reads as it did. -/
def fnExactDotsApartSpec : ChangeSpec := { name := "fnExactDotsApart", fn := fun _ => fun
  | [d1, d2] => { results := [.lit (.bool true)], args := [d1, d2] }
  | _ => none }
def fnExactDotsApartRow : OpenClaim := { program := "ythpbpdnlnmldeaa", sum := "bc74cdea18a092048e5820a214a246263c03dc7ce5c647bcef7e3d69b95898ed", func := "loop.example/braille/laws.FnExactDotsApart", spec := "fnExactDotsApart", apart := false }
def FnExactDotsApartSaid : Prop := fnExactDotsApartRow.holds Try.pinned (OpenSpec.ofChange fnExactDotsApartSpec)

/-- ITS FALSE NEIGHBOUR: 'it returns false'. Refute it at one input. -/
def fnExactDotsApartWrong : ChangeSpec := { name := "fnExactDotsApart", fn := fun _ => fun
  | [d1, d2] => { results := [.lit (.bool false)], args := [d1, d2] }
  | _ => none }
def FnExactDotsApartWrongFalsely : Prop := fnExactDotsApartRow.holds Try.pinned (OpenSpec.ofChange fnExactDotsApartWrong)

/-- 'laws.FnExactThin': WHATEVER THE INPUT: true; the input reads as it did. -/
def fnExactThinSpec : ChangeSpec := { name := "fnExactThin", fn := fun _ => fun
  | [d1, d2] => { results := [.lit (.bool true)], args := [d1, d2] }
  | _ => none }
def fnExactThinRow : OpenClaim := { program := "ythpbpdnlnmldeaa", sum := "bc74cdea18a092048e5820a214a246263c03dc7ce5c647bcef7e3d69b95898ed", func := "loop.example/braille/laws.FnExactThin", spec := "fnExactThin", apart := false }
def FnExactThinSaid : Prop := fnExactThinRow.holds Try.pinned (OpenSpec.ofChange fnExactThinSpec)

/-- ITS FALSE NEIGHBOUR: 'it returns false'. Refute it at one input. -/
def fnExactThinWrong : ChangeSpec := { name := "fnExactThin", fn := fun _ => fun
  | [d1, d2] => { results := [.lit (.bool false)], args := [d1, d2] }
  | _ => none }
def FnExactThinWrongFalsely : Prop := fnExactThinRow.holds Try.pinned (OpenSpec.ofChange fnExactThinWrong)

/-- 'laws.FnExactGrow': WHATEVER THE INPUT: true; the input reads as it did. -/
def fnExactGrowSpec : ChangeSpec := { name := "fnExactGrow", fn := fun _ => fun
  | [d] => { results := [.lit (.bool true)], args := [d] }
  | _ => none }
def fnExactGrowRow : OpenClaim := { program := "ythpbpdnlnmldeaa", sum := "bc74cdea18a092048e5820a214a246263c03dc7ce5c647bcef7e3d69b95898ed", func := "loop.example/braille/laws.FnExactGrow", spec := "fnExactGrow", apart := false }
def FnExactGrowSaid : Prop := fnExactGrowRow.holds Try.pinned (OpenSpec.ofChange fnExactGrowSpec)

/-- ITS FALSE NEIGHBOUR: 'it returns false'. Refute it at one input. -/
def fnExactGrowWrong : ChangeSpec := { name := "fnExactGrow", fn := fun _ => fun
  | [d] => { results := [.lit (.bool false)], args := [d] }
  | _ => none }
def FnExactGrowWrongFalsely : Prop := fnExactGrowRow.holds Try.pinned (OpenSpec.ofChange fnExactGrowWrong)

/-- 'laws.FnExactRegions': WHATEVER THE INPUT: true; the input reads as it did. -/
def fnExactRegionsSpec : ChangeSpec := { name := "fnExactRegions", fn := fun _ => fun
  | [d] => { results := [.lit (.bool true)], args := [d] }
  | _ => none }
def fnExactRegionsRow : OpenClaim := { program := "ythpbpdnlnmldeaa", sum := "bc74cdea18a092048e5820a214a246263c03dc7ce5c647bcef7e3d69b95898ed", func := "loop.example/braille/laws.FnExactRegions", spec := "fnExactRegions", recurses := true, apart := false }
def FnExactRegionsSaid : Prop := fnExactRegionsRow.holds Try.pinned (OpenSpec.ofChange fnExactRegionsSpec)

/-- ITS FALSE NEIGHBOUR: 'it returns false'. Refute it at one input. -/
def fnExactRegionsWrong : ChangeSpec := { name := "fnExactRegions", fn := fun _ => fun
  | [d] => { results := [.lit (.bool false)], args := [d] }
  | _ => none }
def FnExactRegionsWrongFalsely : Prop := fnExactRegionsRow.holds Try.pinned (OpenSpec.ofChange fnExactRegionsWrong)

/- THE SECOND FORM. 'bulk': how many values and letters a reading holds, each counted each time it is reached (what is shared counts as often as it is met; a slice's spare places count too). A statement '..UptoSaid' is the law's where the arguments, and the package variables that the reading takes, are together of bulk at most 1048576: NARROWER than '..Said'. Prove '..Said' where nothing that the law and all that it calls make is longer than what came in: it says more and counts as full. Else prove '..UptoSaid'. A law counts once. -/
mutual
def uptoBulk {H : Type} : DataW H → Nat
  | .lit (.string bytes) => bytes.length + 1
  | .lit _ => 1
  | .nil => 1
  | .ptr d => uptoBulk d + 1
  | .slice elems spare => uptoBulkAll elems + uptoBulkAll spare + 1
  | .agg parts => uptoBulkAll parts + 1
  | .iface _ d => uptoBulk d + 1
  | .map entries => uptoBulkEntries entries + 1
  | .held _ => 1
def uptoBulkAll {H : Type} : List (DataW H) → Nat
  | [] => 0
  | d :: r => uptoBulk d + uptoBulkAll r
def uptoBulkEntries {H : Type} : List (Lit × DataW H) → Nat
  | [] => 0
  | x :: r => uptoBulkEntry x + uptoBulkEntries r
def uptoBulkEntry {H : Type} : Lit × DataW H → Nat
  | (.string bytes, d) => bytes.length + uptoBulk d + 1
  | (_, d) => uptoBulk d + 1
 end
def uptoSmall : (H : Type) → List (DataW H) → Bool := fun _ ds => decide (uptoBulkAll ds ≤ 1048576)
def OpenSpec.upto (s : _root_.Go.ChangeSpec) : _root_.Go.OpenSpec := { _root_.Go.OpenSpec.ofChange s with cond := some uptoSmall }

/-- 'laws.FnDotsApart', WHERE WHAT IT READS IS OF BULK AT MOST 1048576: true; the input reads as it did. -/
def fnDotsApartUptoRow : OpenClaim := { program := "ythpbpdnlnmldeaa", sum := "bc74cdea18a092048e5820a214a246263c03dc7ce5c647bcef7e3d69b95898ed", func := "loop.example/braille/laws.FnDotsApart", spec := "fnDotsApart", apart := false, narrowed := true }
def FnDotsApartUptoSaid : Prop := fnDotsApartUptoRow.holds Try.pinned (OpenSpec.upto fnDotsApartSpec)

/-- 'laws.FnThin', WHERE WHAT IT READS IS OF BULK AT MOST 1048576: true; the input reads as it did. -/
def fnThinUptoRow : OpenClaim := { program := "ythpbpdnlnmldeaa", sum := "bc74cdea18a092048e5820a214a246263c03dc7ce5c647bcef7e3d69b95898ed", func := "loop.example/braille/laws.FnThin", spec := "fnThin", apart := false, narrowed := true }
def FnThinUptoSaid : Prop := fnThinUptoRow.holds Try.pinned (OpenSpec.upto fnThinSpec)

/-- 'laws.FnThinFull', WHERE WHAT IT READS IS OF BULK AT MOST 1048576: true; the input reads as it did. -/
def fnThinFullUptoRow : OpenClaim := { program := "ythpbpdnlnmldeaa", sum := "bc74cdea18a092048e5820a214a246263c03dc7ce5c647bcef7e3d69b95898ed", func := "loop.example/braille/laws.FnThinFull", spec := "fnThinFull", apart := false, narrowed := true }
def FnThinFullUptoSaid : Prop := fnThinFullUptoRow.holds Try.pinned (OpenSpec.upto fnThinFullSpec)

/-- 'laws.FnThinTwice', WHERE WHAT IT READS IS OF BULK AT MOST 1048576: true; the input reads as it did. -/
def fnThinTwiceUptoRow : OpenClaim := { program := "ythpbpdnlnmldeaa", sum := "bc74cdea18a092048e5820a214a246263c03dc7ce5c647bcef7e3d69b95898ed", func := "loop.example/braille/laws.FnThinTwice", spec := "fnThinTwice", apart := false, narrowed := true }
def FnThinTwiceUptoSaid : Prop := fnThinTwiceUptoRow.holds Try.pinned (OpenSpec.upto fnThinTwiceSpec)

/-- 'laws.FnThinRegions', WHERE WHAT IT READS IS OF BULK AT MOST 1048576: true; the input reads as it did. -/
def fnThinRegionsUptoRow : OpenClaim := { program := "ythpbpdnlnmldeaa", sum := "bc74cdea18a092048e5820a214a246263c03dc7ce5c647bcef7e3d69b95898ed", func := "loop.example/braille/laws.FnThinRegions", spec := "fnThinRegions", apart := false, narrowed := true }
def FnThinRegionsUptoSaid : Prop := fnThinRegionsUptoRow.holds Try.pinned (OpenSpec.upto fnThinRegionsSpec)

/-- 'laws.FnThinMany', WHERE WHAT IT READS IS OF BULK AT MOST 1048576: true; the input reads as it did. -/
def fnThinManyUptoRow : OpenClaim := { program := "ythpbpdnlnmldeaa", sum := "bc74cdea18a092048e5820a214a246263c03dc7ce5c647bcef7e3d69b95898ed", func := "loop.example/braille/laws.FnThinMany", spec := "fnThinMany", apart := false, narrowed := true }
def FnThinManyUptoSaid : Prop := fnThinManyUptoRow.holds Try.pinned (OpenSpec.upto fnThinManySpec)

/-- 'laws.FnGrow', WHERE WHAT IT READS IS OF BULK AT MOST 1048576: true; the input reads as it did. -/
def fnGrowUptoRow : OpenClaim := { program := "ythpbpdnlnmldeaa", sum := "bc74cdea18a092048e5820a214a246263c03dc7ce5c647bcef7e3d69b95898ed", func := "loop.example/braille/laws.FnGrow", spec := "fnGrow", apart := false, narrowed := true }
def FnGrowUptoSaid : Prop := fnGrowUptoRow.holds Try.pinned (OpenSpec.upto fnGrowSpec)

/-- 'laws.FnGrowRegions', WHERE WHAT IT READS IS OF BULK AT MOST 1048576: true; the input reads as it did. -/
def fnGrowRegionsUptoRow : OpenClaim := { program := "ythpbpdnlnmldeaa", sum := "bc74cdea18a092048e5820a214a246263c03dc7ce5c647bcef7e3d69b95898ed", func := "loop.example/braille/laws.FnGrowRegions", spec := "fnGrowRegions", apart := false, narrowed := true }
def FnGrowRegionsUptoSaid : Prop := fnGrowRegionsUptoRow.holds Try.pinned (OpenSpec.upto fnGrowRegionsSpec)

/-- 'laws.FnRegions', WHERE WHAT IT READS IS OF BULK AT MOST 1048576: true; the input reads as it did. -/
def fnRegionsUptoRow : OpenClaim := { program := "ythpbpdnlnmldeaa", sum := "bc74cdea18a092048e5820a214a246263c03dc7ce5c647bcef7e3d69b95898ed", func := "loop.example/braille/laws.FnRegions", spec := "fnRegions", recurses := true, apart := false, narrowed := true }
def FnRegionsUptoSaid : Prop := fnRegionsUptoRow.holds Try.pinned (OpenSpec.upto fnRegionsSpec)

/-- 'laws.FnRegionsDot', WHERE WHAT IT READS IS OF BULK AT MOST 1048576: true; the input reads as it did. -/
def fnRegionsDotUptoRow : OpenClaim := { program := "ythpbpdnlnmldeaa", sum := "bc74cdea18a092048e5820a214a246263c03dc7ce5c647bcef7e3d69b95898ed", func := "loop.example/braille/laws.FnRegionsDot", spec := "fnRegionsDot", recurses := true, apart := false, narrowed := true }
def FnRegionsDotUptoSaid : Prop := fnRegionsDotUptoRow.holds Try.pinned (OpenSpec.upto fnRegionsDotSpec)

/-- 'laws.FnExactDotsApart', WHERE WHAT IT READS IS OF BULK AT MOST 1048576: true; the input reads as it did. -/
def fnExactDotsApartUptoRow : OpenClaim := { program := "ythpbpdnlnmldeaa", sum := "bc74cdea18a092048e5820a214a246263c03dc7ce5c647bcef7e3d69b95898ed", func := "loop.example/braille/laws.FnExactDotsApart", spec := "fnExactDotsApart", apart := false, narrowed := true }
def FnExactDotsApartUptoSaid : Prop := fnExactDotsApartUptoRow.holds Try.pinned (OpenSpec.upto fnExactDotsApartSpec)

/-- 'laws.FnExactThin', WHERE WHAT IT READS IS OF BULK AT MOST 1048576: true; the input reads as it did. -/
def fnExactThinUptoRow : OpenClaim := { program := "ythpbpdnlnmldeaa", sum := "bc74cdea18a092048e5820a214a246263c03dc7ce5c647bcef7e3d69b95898ed", func := "loop.example/braille/laws.FnExactThin", spec := "fnExactThin", apart := false, narrowed := true }
def FnExactThinUptoSaid : Prop := fnExactThinUptoRow.holds Try.pinned (OpenSpec.upto fnExactThinSpec)

/-- 'laws.FnExactGrow', WHERE WHAT IT READS IS OF BULK AT MOST 1048576: true; the input reads as it did. -/
def fnExactGrowUptoRow : OpenClaim := { program := "ythpbpdnlnmldeaa", sum := "bc74cdea18a092048e5820a214a246263c03dc7ce5c647bcef7e3d69b95898ed", func := "loop.example/braille/laws.FnExactGrow", spec := "fnExactGrow", apart := false, narrowed := true }
def FnExactGrowUptoSaid : Prop := fnExactGrowUptoRow.holds Try.pinned (OpenSpec.upto fnExactGrowSpec)

/-- 'laws.FnExactRegions', WHERE WHAT IT READS IS OF BULK AT MOST 1048576: true; the input reads as it did. -/
def fnExactRegionsUptoRow : OpenClaim := { program := "ythpbpdnlnmldeaa", sum := "bc74cdea18a092048e5820a214a246263c03dc7ce5c647bcef7e3d69b95898ed", func := "loop.example/braille/laws.FnExactRegions", spec := "fnExactRegions", recurses := true, apart := false, narrowed := true }
def FnExactRegionsUptoSaid : Prop := fnExactRegionsUptoRow.holds Try.pinned (OpenSpec.upto fnExactRegionsSpec)

end Rows
end Go.Proofs.Ythpbpdnlnmldeaa
