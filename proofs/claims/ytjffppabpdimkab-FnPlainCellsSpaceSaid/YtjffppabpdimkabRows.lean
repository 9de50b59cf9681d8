/-
  No cell of these rows narrows 'for every input' (looked for: loops, veiled, ifaces, maps, wideKeys, modest, calm, conditions, laid).
  DERIVED. THE GIVEN ROWS OF THIS SEAT. 12 by the template 'for every input the law returns true; each argument reads behind the call as it read before'; 0 by the template 'total and deterministic' (their statements: YtjffppabpdimkabTotals.lean).
  GIVEN WITH THE SEED: the statements are not yours to turn. If you find one false, say at which input.
  Laid BY PROGRAM, IN A SANDBOX (cutbox-rows.mjs): the forced cells as the released guide's own fill.sh prints them over the translation 32524f127031c5ab… (all of the seat's roots in one cut). By AI agents, Wed Nov 11 2026. No macro, syntax, notation, axiom, sorry.
-/
import Derived.Test.YtjffppabpdimkabChecked
import GoSem.Claim
import GoSem.ClaimJoined
import GoSem.ClaimMapViews
import Derived.JoinedTies
import Derived.KernelRfl
namespace Go.Proofs.Ytjffppabpdimkab
/- THE CELL 'sum', in the pinned program and in every row, IS THE sha256 OF THE DUMP (.gsa) THAT YtjffppabpdimkabProg.lean LOADS. Nothing in Lean hashes anything: it is a label: what it is worth is what the hold of that sum in a sandbox is worth. -/
noncomputable def Try.pinned : Pinned := { name := "ytjffppabpdimkab", sum := "32524f127031c5ab2def193859acc7753e61cbed0facf0c4900306c9742da838", checked := Try.checked }
namespace Rows
def none {H : Type} : Left H := { results := [], args := [] }

/-- 'laws.FnMarkCell': WHATEVER THE INPUT: true; the input reads as it did. -/
def fnMarkCellSpec : ChangeSpec := { name := "fnMarkCell", fn := fun _ => fun
  | [d] => { results := [.lit (.bool true)], args := [d] }
  | _ => none }
def fnMarkCellRow : OpenClaim := { program := "ytjffppabpdimkab", sum := "32524f127031c5ab2def193859acc7753e61cbed0facf0c4900306c9742da838", func := "loop.example/braille/laws.FnMarkCell", spec := "fnMarkCell", apart := false }
def FnMarkCellSaid : Prop := fnMarkCellRow.holds Try.pinned (OpenSpec.ofChange fnMarkCellSpec)

/-- ITS FALSE NEIGHBOUR: 'it returns false'. Refute it at one input. -/
def fnMarkCellWrong : ChangeSpec := { name := "fnMarkCell", fn := fun _ => fun
  | [d] => { results := [.lit (.bool false)], args := [d] }
  | _ => none }
def FnMarkCellWrongFalsely : Prop := fnMarkCellRow.holds Try.pinned (OpenSpec.ofChange fnMarkCellWrong)

/-- 'laws.FnValidText': WHATEVER THE INPUT: true; the input reads as it did. -/
def fnValidTextSpec : ChangeSpec := { name := "fnValidText", fn := fun _ => fun
  | [d] => { results := [.lit (.bool true)], args := [d] }
  | _ => none }
def fnValidTextRow : OpenClaim := { program := "ytjffppabpdimkab", sum := "32524f127031c5ab2def193859acc7753e61cbed0facf0c4900306c9742da838", func := "loop.example/braille/laws.FnValidText", spec := "fnValidText", apart := false }
def FnValidTextSaid : Prop := fnValidTextRow.holds Try.pinned (OpenSpec.ofChange fnValidTextSpec)

/-- ITS FALSE NEIGHBOUR: 'it returns false'. Refute it at one input. -/
def fnValidTextWrong : ChangeSpec := { name := "fnValidText", fn := fun _ => fun
  | [d] => { results := [.lit (.bool false)], args := [d] }
  | _ => none }
def FnValidTextWrongFalsely : Prop := fnValidTextRow.holds Try.pinned (OpenSpec.ofChange fnValidTextWrong)

/-- 'laws.FnPlainCells': WHATEVER THE INPUT: true; the input reads as it did. -/
def fnPlainCellsSpec : ChangeSpec := { name := "fnPlainCells", fn := fun _ => fun
  | [d] => { results := [.lit (.bool true)], args := [d] }
  | _ => none }
def fnPlainCellsRow : OpenClaim := { program := "ytjffppabpdimkab", sum := "32524f127031c5ab2def193859acc7753e61cbed0facf0c4900306c9742da838", func := "loop.example/braille/laws.FnPlainCells", spec := "fnPlainCells", apart := false }
def FnPlainCellsSaid : Prop := fnPlainCellsRow.holds Try.pinned (OpenSpec.ofChange fnPlainCellsSpec)

/-- ITS FALSE NEIGHBOUR: 'it returns false'. Refute it at one input. -/
def fnPlainCellsWrong : ChangeSpec := { name := "fnPlainCells", fn := fun _ => fun
  | [d] => { results := [.lit (.bool false)], args := [d] }
  | _ => none }
def FnPlainCellsWrongFalsely : Prop := fnPlainCellsRow.holds Try.pinned (OpenSpec.ofChange fnPlainCellsWrong)

/-- 'laws.FnPlainCellsLength': WHATEVER THE INPUT: true; the input reads as it did. -/
def fnPlainCellsLengthSpec : ChangeSpec := { name := "fnPlainCellsLength", fn := fun _ => fun
  | [d] => { results := [.lit (.bool true)], args := [d] }
  | _ => none }
def fnPlainCellsLengthRow : OpenClaim := { program := "ytjffppabpdimkab", sum := "32524f127031c5ab2def193859acc7753e61cbed0facf0c4900306c9742da838", func := "loop.example/braille/laws.FnPlainCellsLength", spec := "fnPlainCellsLength", apart := false }
def FnPlainCellsLengthSaid : Prop := fnPlainCellsLengthRow.holds Try.pinned (OpenSpec.ofChange fnPlainCellsLengthSpec)

/-- ITS FALSE NEIGHBOUR: 'it returns false'. Refute it at one input. -/
def fnPlainCellsLengthWrong : ChangeSpec := { name := "fnPlainCellsLength", fn := fun _ => fun
  | [d] => { results := [.lit (.bool false)], args := [d] }
  | _ => none }
def FnPlainCellsLengthWrongFalsely : Prop := fnPlainCellsLengthRow.holds Try.pinned (OpenSpec.ofChange fnPlainCellsLengthWrong)

/-- 'laws.FnPlainCellsSpace': WHATEVER THE INPUT: true; the input reads as it did. -/
def fnPlainCellsSpaceSpec : ChangeSpec := { name := "fnPlainCellsSpace", fn := fun _ => fun
  | [d] => { results := [.lit (.bool true)], args := [d] }
  | _ => none }
def fnPlainCellsSpaceRow : OpenClaim := { program := "ytjffppabpdimkab", sum := "32524f127031c5ab2def193859acc7753e61cbed0facf0c4900306c9742da838", func := "loop.example/braille/laws.FnPlainCellsSpace", spec := "fnPlainCellsSpace", apart := false }
def FnPlainCellsSpaceSaid : Prop := fnPlainCellsSpaceRow.holds Try.pinned (OpenSpec.ofChange fnPlainCellsSpaceSpec)

/-- ITS FALSE NEIGHBOUR: 'it returns false'. Refute it at one input. -/
def fnPlainCellsSpaceWrong : ChangeSpec := { name := "fnPlainCellsSpace", fn := fun _ => fun
  | [d] => { results := [.lit (.bool false)], args := [d] }
  | _ => none }
def FnPlainCellsSpaceWrongFalsely : Prop := fnPlainCellsSpaceRow.holds Try.pinned (OpenSpec.ofChange fnPlainCellsSpaceWrong)

/-- 'laws.FnPlainText': WHATEVER THE INPUT: true; the input reads as it did. -/
def fnPlainTextSpec : ChangeSpec := { name := "fnPlainText", fn := fun _ => fun
  | [d] => { results := [.lit (.bool true)], args := [d] }
  | _ => none }
def fnPlainTextRow : OpenClaim := { program := "ytjffppabpdimkab", sum := "32524f127031c5ab2def193859acc7753e61cbed0facf0c4900306c9742da838", func := "loop.example/braille/laws.FnPlainText", spec := "fnPlainText", apart := false }
def FnPlainTextSaid : Prop := fnPlainTextRow.holds Try.pinned (OpenSpec.ofChange fnPlainTextSpec)

/-- ITS FALSE NEIGHBOUR: 'it returns false'. Refute it at one input. -/
def fnPlainTextWrong : ChangeSpec := { name := "fnPlainText", fn := fun _ => fun
  | [d] => { results := [.lit (.bool false)], args := [d] }
  | _ => none }
def FnPlainTextWrongFalsely : Prop := fnPlainTextRow.holds Try.pinned (OpenSpec.ofChange fnPlainTextWrong)

/-- 'laws.FnPlainTextSpaces': WHATEVER THE INPUT: true; the input reads as it did. -/
def fnPlainTextSpacesSpec : ChangeSpec := { name := "fnPlainTextSpaces", fn := fun _ => fun
  | [d] => { results := [.lit (.bool true)], args := [d] }
  | _ => none }
def fnPlainTextSpacesRow : OpenClaim := { program := "ytjffppabpdimkab", sum := "32524f127031c5ab2def193859acc7753e61cbed0facf0c4900306c9742da838", func := "loop.example/braille/laws.FnPlainTextSpaces", spec := "fnPlainTextSpaces", apart := false }
def FnPlainTextSpacesSaid : Prop := fnPlainTextSpacesRow.holds Try.pinned (OpenSpec.ofChange fnPlainTextSpacesSpec)

/-- ITS FALSE NEIGHBOUR: 'it returns false'. Refute it at one input. -/
def fnPlainTextSpacesWrong : ChangeSpec := { name := "fnPlainTextSpaces", fn := fun _ => fun
  | [d] => { results := [.lit (.bool false)], args := [d] }
  | _ => none }
def FnPlainTextSpacesWrongFalsely : Prop := fnPlainTextSpacesRow.holds Try.pinned (OpenSpec.ofChange fnPlainTextSpacesWrong)

/-- 'laws.FnParseCellsCount': WHATEVER THE INPUT: true; the input reads as it did. -/
def fnParseCellsCountSpec : ChangeSpec := { name := "fnParseCellsCount", fn := fun _ => fun
  | [d] => { results := [.lit (.bool true)], args := [d] }
  | _ => none }
def fnParseCellsCountRow : OpenClaim := { program := "ytjffppabpdimkab", sum := "32524f127031c5ab2def193859acc7753e61cbed0facf0c4900306c9742da838", func := "loop.example/braille/laws.FnParseCellsCount", spec := "fnParseCellsCount", apart := false }
def FnParseCellsCountSaid : Prop := fnParseCellsCountRow.holds Try.pinned (OpenSpec.ofChange fnParseCellsCountSpec)

/-- ITS FALSE NEIGHBOUR: 'it returns false'. Refute it at one input. -/
def fnParseCellsCountWrong : ChangeSpec := { name := "fnParseCellsCount", fn := fun _ => fun
  | [d] => { results := [.lit (.bool false)], args := [d] }
  | _ => none }
def FnParseCellsCountWrongFalsely : Prop := fnParseCellsCountRow.holds Try.pinned (OpenSpec.ofChange fnParseCellsCountWrong)

/-- 'laws.FnPlainCellsSigns': WHATEVER THE INPUT: true; the input reads as it did. -/
def fnPlainCellsSignsSpec : ChangeSpec := { name := "fnPlainCellsSigns", fn := fun _ => fun
  | [d] => { results := [.lit (.bool true)], args := [d] }
  | _ => none }
def fnPlainCellsSignsRow : OpenClaim := { program := "ytjffppabpdimkab", sum := "32524f127031c5ab2def193859acc7753e61cbed0facf0c4900306c9742da838", func := "loop.example/braille/laws.FnPlainCellsSigns", spec := "fnPlainCellsSigns", apart := false }
def FnPlainCellsSignsSaid : Prop := fnPlainCellsSignsRow.holds Try.pinned (OpenSpec.ofChange fnPlainCellsSignsSpec)

/-- ITS FALSE NEIGHBOUR: 'it returns false'. Refute it at one input. -/
def fnPlainCellsSignsWrong : ChangeSpec := { name := "fnPlainCellsSigns", fn := fun _ => fun
  | [d] => { results := [.lit (.bool false)], args := [d] }
  | _ => none }
def FnPlainCellsSignsWrongFalsely : Prop := fnPlainCellsSignsRow.holds Try.pinned (OpenSpec.ofChange fnPlainCellsSignsWrong)

/-- 'laws.FnExactValidCells': WHATEVER THE INPUT: true; the input reads as it did. -/
def fnExactValidCellsSpec : ChangeSpec := { name := "fnExactValidCells", fn := fun _ => fun
  | [d] => { results := [.lit (.bool true)], args := [d] }
  | _ => none }
def fnExactValidCellsRow : OpenClaim := { program := "ytjffppabpdimkab", sum := "32524f127031c5ab2def193859acc7753e61cbed0facf0c4900306c9742da838", func := "loop.example/braille/laws.FnExactValidCells", spec := "fnExactValidCells", apart := false }
def FnExactValidCellsSaid : Prop := fnExactValidCellsRow.holds Try.pinned (OpenSpec.ofChange fnExactValidCellsSpec)

/-- ITS FALSE NEIGHBOUR: 'it returns false'. Refute it at one input. -/
def fnExactValidCellsWrong : ChangeSpec := { name := "fnExactValidCells", fn := fun _ => fun
  | [d] => { results := [.lit (.bool false)], args := [d] }
  | _ => none }
def FnExactValidCellsWrongFalsely : Prop := fnExactValidCellsRow.holds Try.pinned (OpenSpec.ofChange fnExactValidCellsWrong)

/-- 'laws.FnExactDotsOf': WHATEVER THE INPUT: true; the input reads as it did. -/
def fnExactDotsOfSpec : ChangeSpec := { name := "fnExactDotsOf", fn := fun _ => fun
  | [d] => { results := [.lit (.bool true)], args := [d] }
  | _ => none }
def fnExactDotsOfRow : OpenClaim := { program := "ytjffppabpdimkab", sum := "32524f127031c5ab2def193859acc7753e61cbed0facf0c4900306c9742da838", func := "loop.example/braille/laws.FnExactDotsOf", spec := "fnExactDotsOf", apart := false }
def FnExactDotsOfSaid : Prop := fnExactDotsOfRow.holds Try.pinned (OpenSpec.ofChange fnExactDotsOfSpec)

/-- ITS FALSE NEIGHBOUR: 'it returns false'. Refute it at one input. -/
def fnExactDotsOfWrong : ChangeSpec := { name := "fnExactDotsOf", fn := fun _ => fun
  | [d] => { results := [.lit (.bool false)], args := [d] }
  | _ => none }
def FnExactDotsOfWrongFalsely : Prop := fnExactDotsOfRow.holds Try.pinned (OpenSpec.ofChange fnExactDotsOfWrong)

/-- 'laws.FnExactCellOf': WHATEVER THE INPUT: true; the input reads as it did. -/
def fnExactCellOfSpec : ChangeSpec := { name := "fnExactCellOf", fn := fun _ => fun
  | [d] => { results := [.lit (.bool true)], args := [d] }
  | _ => none }
def fnExactCellOfRow : OpenClaim := { program := "ytjffppabpdimkab", sum := "32524f127031c5ab2def193859acc7753e61cbed0facf0c4900306c9742da838", func := "loop.example/braille/laws.FnExactCellOf", spec := "fnExactCellOf", apart := false }
def FnExactCellOfSaid : Prop := fnExactCellOfRow.holds Try.pinned (OpenSpec.ofChange fnExactCellOfSpec)

/-- ITS FALSE NEIGHBOUR: 'it returns false'. Refute it at one input. -/
def fnExactCellOfWrong : ChangeSpec := { name := "fnExactCellOf", fn := fun _ => fun
  | [d] => { results := [.lit (.bool false)], args := [d] }
  | _ => none }
def FnExactCellOfWrongFalsely : Prop := fnExactCellOfRow.holds Try.pinned (OpenSpec.ofChange fnExactCellOfWrong)

/- THE SECOND FORM. 'bulk': how many values and letters a reading holds, each counted each time it is reached (what is shared counts as often as it is met; a slice's spare places count too). A statement '..UptoSaid' is the law's where the arguments, and the package variables that the reading takes, are together of bulk at most 1048576: NARROWER than '..Said'. Prove '..Said' where nothing that the law and all that it calls make is longer than what came in: it says more and counts as full. Else prove '..UptoSaid'. A law counts once. -/
mutual
def uptoBulk {H : Type} : DataW H → Nat
  | .lit (.string bytes) => bytes.length + 1
  | .lit _ => 1
  | .nil => 1
  | .ptr d => uptoBulk d + 1
  | .slice elems spare => uptoBulkAll elems + uptoBulkAll spare + 1
  | .agg parts => uptoBulkAll parts + 1
  | .iface _ d => uptoBulk d + 1
  | .map entries => uptoBulkEntries entries + 1
  | .held _ => 1
def uptoBulkAll {H : Type} : List (DataW H) → Nat
  | [] => 0
  | d :: r => uptoBulk d + uptoBulkAll r
def uptoBulkEntries {H : Type} : List (Lit × DataW H) → Nat
  | [] => 0
  | x :: r => uptoBulkEntry x + uptoBulkEntries r
def uptoBulkEntry {H : Type} : Lit × DataW H → Nat
  | (.string bytes, d) => bytes.length + uptoBulk d + 1
  | (_, d) => uptoBulk d + 1
 end
def uptoSmall : (H : Type) → List (DataW H) → Bool := fun _ ds => decide (uptoBulkAll ds ≤ 1048576)
def OpenSpec.upto (s : _root_.Go.ChangeSpec) : _root_.Go.OpenSpec := { _root_.Go.OpenSpec.ofChange s with cond := some uptoSmall }

/-- 'laws.FnMarkCell', WHERE WHAT IT READS IS OF BULK AT MOST 1048576: true; the input reads as it did. -/
def fnMarkCellUptoRow : OpenClaim := { program := "ytjffppabpdimkab", sum := "32524f127031c5ab2def193859acc7753e61cbed0facf0c4900306c9742da838", func := "loop.example/braille/laws.FnMarkCell", spec := "fnMarkCell", apart := false, narrowed := true }
def FnMarkCellUptoSaid : Prop := fnMarkCellUptoRow.holds Try.pinned (OpenSpec.upto fnMarkCellSpec)

/-- 'laws.FnValidText', WHERE WHAT IT READS IS OF BULK AT MOST 1048576: true; the input reads as it did. -/
def fnValidTextUptoRow : OpenClaim := { program := "ytjffppabpdimkab", sum := "32524f127031c5ab2def193859acc7753e61cbed0facf0c4900306c9742da838", func := "loop.example/braille/laws.FnValidText", spec := "fnValidText", apart := false, narrowed := true }
def FnValidTextUptoSaid : Prop := fnValidTextUptoRow.holds Try.pinned (OpenSpec.upto fnValidTextSpec)

/-- 'laws.FnPlainCells', WHERE WHAT IT READS IS OF BULK AT MOST 1048576: true; the input reads as it did. -/
def fnPlainCellsUptoRow : OpenClaim := { program := "ytjffppabpdimkab", sum := "32524f127031c5ab2def193859acc7753e61cbed0facf0c4900306c9742da838", func := "loop.example/braille/laws.FnPlainCells", spec := "fnPlainCells", apart := false, narrowed := true }
def FnPlainCellsUptoSaid : Prop := fnPlainCellsUptoRow.holds Try.pinned (OpenSpec.upto fnPlainCellsSpec)

/-- 'laws.FnPlainCellsLength', WHERE WHAT IT READS IS OF BULK AT MOST 1048576: true; the input reads as it did. -/
def fnPlainCellsLengthUptoRow : OpenClaim := { program := "ytjffppabpdimkab", sum := "32524f127031c5ab2def193859acc7753e61cbed0facf0c4900306c9742da838", func := "loop.example/braille/laws.FnPlainCellsLength", spec := "fnPlainCellsLength", apart := false, narrowed := true }
def FnPlainCellsLengthUptoSaid : Prop := fnPlainCellsLengthUptoRow.holds Try.pinned (OpenSpec.upto fnPlainCellsLengthSpec)

/-- 'laws.FnPlainCellsSpace', WHERE WHAT IT READS IS OF BULK AT MOST 1048576: true; the input reads as it did. -/
def fnPlainCellsSpaceUptoRow : OpenClaim := { program := "ytjffppabpdimkab", sum := "32524f127031c5ab2def193859acc7753e61cbed0facf0c4900306c9742da838", func := "loop.example/braille/laws.FnPlainCellsSpace", spec := "fnPlainCellsSpace", apart := false, narrowed := true }
def FnPlainCellsSpaceUptoSaid : Prop := fnPlainCellsSpaceUptoRow.holds Try.pinned (OpenSpec.upto fnPlainCellsSpaceSpec)

/-- 'laws.FnPlainText', WHERE WHAT IT READS IS OF BULK AT MOST 1048576: true; the input reads as it did. -/
def fnPlainTextUptoRow : OpenClaim := { program := "ytjffppabpdimkab", sum := "32524f127031c5ab2def193859acc7753e61cbed0facf0c4900306c9742da838", func := "loop.example/braille/laws.FnPlainText", spec := "fnPlainText", apart := false, narrowed := true }
def FnPlainTextUptoSaid : Prop := fnPlainTextUptoRow.holds Try.pinned (OpenSpec.upto fnPlainTextSpec)

/-- 'laws.FnPlainTextSpaces', WHERE WHAT IT READS IS OF BULK AT MOST 1048576: true; the input reads as it did. -/
def fnPlainTextSpacesUptoRow : OpenClaim := { program := "ytjffppabpdimkab", sum := "32524f127031c5ab2def193859acc7753e61cbed0facf0c4900306c9742da838", func := "loop.example/braille/laws.FnPlainTextSpaces", spec := "fnPlainTextSpaces", apart := false, narrowed := true }
def FnPlainTextSpacesUptoSaid : Prop := fnPlainTextSpacesUptoRow.holds Try.pinned (OpenSpec.upto fnPlainTextSpacesSpec)

/-- 'laws.FnParseCellsCount', WHERE WHAT IT READS IS OF BULK AT MOST 1048576: true; the input reads as it did. -/
def fnParseCellsCountUptoRow : OpenClaim := { program := "ytjffppabpdimkab", sum := "32524f127031c5ab2def193859acc7753e61cbed0facf0c4900306c9742da838", func := "loop.example/braille/laws.FnParseCellsCount", spec := "fnParseCellsCount", apart := false, narrowed := true }
def FnParseCellsCountUptoSaid : Prop := fnParseCellsCountUptoRow.holds Try.pinned (OpenSpec.upto fnParseCellsCountSpec)

/-- 'laws.FnPlainCellsSigns', WHERE WHAT IT READS IS OF BULK AT MOST 1048576: true; the input reads as it did. -/
def fnPlainCellsSignsUptoRow : OpenClaim := { program := "ytjffppabpdimkab", sum := "32524f127031c5ab2def193859acc7753e61cbed0facf0c4900306c9742da838", func := "loop.example/braille/laws.FnPlainCellsSigns", spec := "fnPlainCellsSigns", apart := false, narrowed := true }
def FnPlainCellsSignsUptoSaid : Prop := fnPlainCellsSignsUptoRow.holds Try.pinned (OpenSpec.upto fnPlainCellsSignsSpec)

/-- 'laws.FnExactValidCells', WHERE WHAT IT READS IS OF BULK AT MOST 1048576: true; the input reads as it did. -/
def fnExactValidCellsUptoRow : OpenClaim := { program := "ytjffppabpdimkab", sum := "32524f127031c5ab2def193859acc7753e61cbed0facf0c4900306c9742da838", func := "loop.example/braille/laws.FnExactValidCells", spec := "fnExactValidCells", apart := false, narrowed := true }
def FnExactValidCellsUptoSaid : Prop := fnExactValidCellsUptoRow.holds Try.pinned (OpenSpec.upto fnExactValidCellsSpec)

/-- 'laws.FnExactDotsOf', WHERE WHAT IT READS IS OF BULK AT MOST 1048576: true; the input reads as it did. -/
def fnExactDotsOfUptoRow : OpenClaim := { program := "ytjffppabpdimkab", sum := "32524f127031c5ab2def193859acc7753e61cbed0facf0c4900306c9742da838", func := "loop.example/braille/laws.FnExactDotsOf", spec := "fnExactDotsOf", apart := false, narrowed := true }
def FnExactDotsOfUptoSaid : Prop := fnExactDotsOfUptoRow.holds Try.pinned (OpenSpec.upto fnExactDotsOfSpec)

/-- 'laws.FnExactCellOf', WHERE WHAT IT READS IS OF BULK AT MOST 1048576: true; the input reads as it did. -/
def fnExactCellOfUptoRow : OpenClaim := { program := "ytjffppabpdimkab", sum := "32524f127031c5ab2def193859acc7753e61cbed0facf0c4900306c9742da838", func := "loop.example/braille/laws.FnExactCellOf", spec := "fnExactCellOf", apart := false, narrowed := true }
def FnExactCellOfUptoSaid : Prop := fnExactCellOfUptoRow.holds Try.pinned (OpenSpec.upto fnExactCellOfSpec)

end Rows
end Go.Proofs.Ytjffppabpdimkab
