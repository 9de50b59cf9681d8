/-
  No cell of these rows narrows 'for every input' (looked for: loops, veiled, ifaces, maps, wideKeys, modest, calm, conditions, laid).
  DERIVED. THE GIVEN ROWS OF THIS SEAT. 12 by the template 'for every input the law returns true; each argument reads behind the call as it read before'; 0 by the template 'total and deterministic' (their statements: YtjffppabpdimkaaTotals.lean).
  GIVEN WITH THE SEED: the statements are not yours to turn. If you find one false, say at which input.
  Laid BY PROGRAM, IN A SANDBOX (cutbox-rows.mjs): the forced cells as the released guide's own fill.sh prints them over the translation c8f4282c1db092ea… (all of the seat's roots in one cut). By AI agents, Wed Nov 11 2026. No macro, syntax, notation, axiom, sorry.
-/
import Derived.Test.YtjffppabpdimkaaChecked
import GoSem.Claim
import GoSem.ClaimJoined
import GoSem.ClaimMapViews
import Derived.JoinedTies
import Derived.KernelRfl
namespace Go.Proofs.Ytjffppabpdimkaa
/- THE CELL 'sum', in the pinned program and in every row, IS THE sha256 OF THE DUMP (.gsa) THAT YtjffppabpdimkaaProg.lean LOADS. Nothing in Lean hashes anything: it is a label: what it is worth is what the hold of that sum in a sandbox is worth. -/
noncomputable def Try.pinned : Pinned := { name := "ytjffppabpdimkaa", sum := "c8f4282c1db092ea91f2edfb882fd59865bcc2b800308637c5683dffc5cd240b", checked := Try.checked }
namespace Rows
def none {H : Type} : Left H := { results := [], args := [] }

/-- 'laws.FnValidCells': WHATEVER THE INPUT: true; the input reads as it did. -/
def fnValidCellsSpec : ChangeSpec := { name := "fnValidCells", fn := fun _ => fun
  | [d] => { results := [.lit (.bool true)], args := [d] }
  | _ => none }
def fnValidCellsRow : OpenClaim := { program := "ytjffppabpdimkaa", sum := "c8f4282c1db092ea91f2edfb882fd59865bcc2b800308637c5683dffc5cd240b", func := "loop.example/braille/laws.FnValidCells", spec := "fnValidCells", apart := false }
def FnValidCellsSaid : Prop := fnValidCellsRow.holds Try.pinned (OpenSpec.ofChange fnValidCellsSpec)

/-- ITS FALSE NEIGHBOUR: 'it returns false'. Refute it at one input. -/
def fnValidCellsWrong : ChangeSpec := { name := "fnValidCells", fn := fun _ => fun
  | [d] => { results := [.lit (.bool false)], args := [d] }
  | _ => none }
def FnValidCellsWrongFalsely : Prop := fnValidCellsRow.holds Try.pinned (OpenSpec.ofChange fnValidCellsWrong)

/-- 'laws.FnDotsOf': WHATEVER THE INPUT: true; the input reads as it did. -/
def fnDotsOfSpec : ChangeSpec := { name := "fnDotsOf", fn := fun _ => fun
  | [d] => { results := [.lit (.bool true)], args := [d] }
  | _ => none }
def fnDotsOfRow : OpenClaim := { program := "ytjffppabpdimkaa", sum := "c8f4282c1db092ea91f2edfb882fd59865bcc2b800308637c5683dffc5cd240b", func := "loop.example/braille/laws.FnDotsOf", spec := "fnDotsOf", apart := false }
def FnDotsOfSaid : Prop := fnDotsOfRow.holds Try.pinned (OpenSpec.ofChange fnDotsOfSpec)

/-- ITS FALSE NEIGHBOUR: 'it returns false'. Refute it at one input. -/
def fnDotsOfWrong : ChangeSpec := { name := "fnDotsOf", fn := fun _ => fun
  | [d] => { results := [.lit (.bool false)], args := [d] }
  | _ => none }
def FnDotsOfWrongFalsely : Prop := fnDotsOfRow.holds Try.pinned (OpenSpec.ofChange fnDotsOfWrong)

/-- 'laws.FnCellOf': WHATEVER THE INPUT: true; the input reads as it did. -/
def fnCellOfSpec : ChangeSpec := { name := "fnCellOf", fn := fun _ => fun
  | [d] => { results := [.lit (.bool true)], args := [d] }
  | _ => none }
def fnCellOfRow : OpenClaim := { program := "ytjffppabpdimkaa", sum := "c8f4282c1db092ea91f2edfb882fd59865bcc2b800308637c5683dffc5cd240b", func := "loop.example/braille/laws.FnCellOf", spec := "fnCellOf", apart := false }
def FnCellOfSaid : Prop := fnCellOfRow.holds Try.pinned (OpenSpec.ofChange fnCellOfSpec)

/-- ITS FALSE NEIGHBOUR: 'it returns false'. Refute it at one input. -/
def fnCellOfWrong : ChangeSpec := { name := "fnCellOf", fn := fun _ => fun
  | [d] => { results := [.lit (.bool false)], args := [d] }
  | _ => none }
def FnCellOfWrongFalsely : Prop := fnCellOfRow.holds Try.pinned (OpenSpec.ofChange fnCellOfWrong)

/-- 'laws.FnMirror': WHATEVER THE INPUT: true; the input reads as it did. -/
def fnMirrorSpec : ChangeSpec := { name := "fnMirror", fn := fun _ => fun
  | [d] => { results := [.lit (.bool true)], args := [d] }
  | _ => none }
def fnMirrorRow : OpenClaim := { program := "ytjffppabpdimkaa", sum := "c8f4282c1db092ea91f2edfb882fd59865bcc2b800308637c5683dffc5cd240b", func := "loop.example/braille/laws.FnMirror", spec := "fnMirror", apart := false }
def FnMirrorSaid : Prop := fnMirrorRow.holds Try.pinned (OpenSpec.ofChange fnMirrorSpec)

/-- ITS FALSE NEIGHBOUR: 'it returns false'. Refute it at one input. -/
def fnMirrorWrong : ChangeSpec := { name := "fnMirror", fn := fun _ => fun
  | [d] => { results := [.lit (.bool false)], args := [d] }
  | _ => none }
def FnMirrorWrongFalsely : Prop := fnMirrorRow.holds Try.pinned (OpenSpec.ofChange fnMirrorWrong)

/-- 'laws.FnFormatCells': WHATEVER THE INPUT: true; the input reads as it did. -/
def fnFormatCellsSpec : ChangeSpec := { name := "fnFormatCells", fn := fun _ => fun
  | [d] => { results := [.lit (.bool true)], args := [d] }
  | _ => none }
def fnFormatCellsRow : OpenClaim := { program := "ytjffppabpdimkaa", sum := "c8f4282c1db092ea91f2edfb882fd59865bcc2b800308637c5683dffc5cd240b", func := "loop.example/braille/laws.FnFormatCells", spec := "fnFormatCells", apart := false }
def FnFormatCellsSaid : Prop := fnFormatCellsRow.holds Try.pinned (OpenSpec.ofChange fnFormatCellsSpec)

/-- ITS FALSE NEIGHBOUR: 'it returns false'. Refute it at one input. -/
def fnFormatCellsWrong : ChangeSpec := { name := "fnFormatCells", fn := fun _ => fun
  | [d] => { results := [.lit (.bool false)], args := [d] }
  | _ => none }
def FnFormatCellsWrongFalsely : Prop := fnFormatCellsRow.holds Try.pinned (OpenSpec.ofChange fnFormatCellsWrong)

/-- 'laws.FnFormatCellsParts': WHATEVER THE INPUT: true; the input reads as it did. -/
def fnFormatCellsPartsSpec : ChangeSpec := { name := "fnFormatCellsParts", fn := fun _ => fun
  | [d] => { results := [.lit (.bool true)], args := [d] }
  | _ => none }
def fnFormatCellsPartsRow : OpenClaim := { program := "ytjffppabpdimkaa", sum := "c8f4282c1db092ea91f2edfb882fd59865bcc2b800308637c5683dffc5cd240b", func := "loop.example/braille/laws.FnFormatCellsParts", spec := "fnFormatCellsParts", apart := false }
def FnFormatCellsPartsSaid : Prop := fnFormatCellsPartsRow.holds Try.pinned (OpenSpec.ofChange fnFormatCellsPartsSpec)

/-- ITS FALSE NEIGHBOUR: 'it returns false'. Refute it at one input. -/
def fnFormatCellsPartsWrong : ChangeSpec := { name := "fnFormatCellsParts", fn := fun _ => fun
  | [d] => { results := [.lit (.bool false)], args := [d] }
  | _ => none }
def FnFormatCellsPartsWrongFalsely : Prop := fnFormatCellsPartsRow.holds Try.pinned (OpenSpec.ofChange fnFormatCellsPartsWrong)

/-- 'laws.FnParseCells': WHATEVER THE INPUT: true; the input reads as it did. -/
def fnParseCellsSpec : ChangeSpec := { name := "fnParseCells", fn := fun _ => fun
  | [d] => { results := [.lit (.bool true)], args := [d] }
  | _ => none }
def fnParseCellsRow : OpenClaim := { program := "ytjffppabpdimkaa", sum := "c8f4282c1db092ea91f2edfb882fd59865bcc2b800308637c5683dffc5cd240b", func := "loop.example/braille/laws.FnParseCells", spec := "fnParseCells", apart := false }
def FnParseCellsSaid : Prop := fnParseCellsRow.holds Try.pinned (OpenSpec.ofChange fnParseCellsSpec)

/-- ITS FALSE NEIGHBOUR: 'it returns false'. Refute it at one input. -/
def fnParseCellsWrong : ChangeSpec := { name := "fnParseCells", fn := fun _ => fun
  | [d] => { results := [.lit (.bool false)], args := [d] }
  | _ => none }
def FnParseCellsWrongFalsely : Prop := fnParseCellsRow.holds Try.pinned (OpenSpec.ofChange fnParseCellsWrong)

/-- 'laws.FnLetterCell': WHATEVER THE INPUT: true; the input reads as it did. -/
def fnLetterCellSpec : ChangeSpec := { name := "fnLetterCell", fn := fun _ => fun
  | [d] => { results := [.lit (.bool true)], args := [d] }
  | _ => none }
def fnLetterCellRow : OpenClaim := { program := "ytjffppabpdimkaa", sum := "c8f4282c1db092ea91f2edfb882fd59865bcc2b800308637c5683dffc5cd240b", func := "loop.example/braille/laws.FnLetterCell", spec := "fnLetterCell", apart := false }
def FnLetterCellSaid : Prop := fnLetterCellRow.holds Try.pinned (OpenSpec.ofChange fnLetterCellSpec)

/-- ITS FALSE NEIGHBOUR: 'it returns false'. Refute it at one input. -/
def fnLetterCellWrong : ChangeSpec := { name := "fnLetterCell", fn := fun _ => fun
  | [d] => { results := [.lit (.bool false)], args := [d] }
  | _ => none }
def FnLetterCellWrongFalsely : Prop := fnLetterCellRow.holds Try.pinned (OpenSpec.ofChange fnLetterCellWrong)

/-- 'laws.FnLetterCellDecades': WHATEVER THE INPUT: true; the input reads as it did. -/
def fnLetterCellDecadesSpec : ChangeSpec := { name := "fnLetterCellDecades", fn := fun _ => fun
  | [d] => { results := [.lit (.bool true)], args := [d] }
  | _ => none }
def fnLetterCellDecadesRow : OpenClaim := { program := "ytjffppabpdimkaa", sum := "c8f4282c1db092ea91f2edfb882fd59865bcc2b800308637c5683dffc5cd240b", func := "loop.example/braille/laws.FnLetterCellDecades", spec := "fnLetterCellDecades", apart := false }
def FnLetterCellDecadesSaid : Prop := fnLetterCellDecadesRow.holds Try.pinned (OpenSpec.ofChange fnLetterCellDecadesSpec)

/-- ITS FALSE NEIGHBOUR: 'it returns false'. Refute it at one input. -/
def fnLetterCellDecadesWrong : ChangeSpec := { name := "fnLetterCellDecades", fn := fun _ => fun
  | [d] => { results := [.lit (.bool false)], args := [d] }
  | _ => none }
def FnLetterCellDecadesWrongFalsely : Prop := fnLetterCellDecadesRow.holds Try.pinned (OpenSpec.ofChange fnLetterCellDecadesWrong)

/-- 'laws.FnLetterOf': WHATEVER THE INPUT: true; the input reads as it did. -/
def fnLetterOfSpec : ChangeSpec := { name := "fnLetterOf", fn := fun _ => fun
  | [d] => { results := [.lit (.bool true)], args := [d] }
  | _ => none }
def fnLetterOfRow : OpenClaim := { program := "ytjffppabpdimkaa", sum := "c8f4282c1db092ea91f2edfb882fd59865bcc2b800308637c5683dffc5cd240b", func := "loop.example/braille/laws.FnLetterOf", spec := "fnLetterOf", apart := false }
def FnLetterOfSaid : Prop := fnLetterOfRow.holds Try.pinned (OpenSpec.ofChange fnLetterOfSpec)

/-- ITS FALSE NEIGHBOUR: 'it returns false'. Refute it at one input. -/
def fnLetterOfWrong : ChangeSpec := { name := "fnLetterOf", fn := fun _ => fun
  | [d] => { results := [.lit (.bool false)], args := [d] }
  | _ => none }
def FnLetterOfWrongFalsely : Prop := fnLetterOfRow.holds Try.pinned (OpenSpec.ofChange fnLetterOfWrong)

/-- 'laws.FnDigitCell': WHATEVER THE INPUT: true; the input reads as it did. -/
def fnDigitCellSpec : ChangeSpec := { name := "fnDigitCell", fn := fun _ => fun
  | [d] => { results := [.lit (.bool true)], args := [d] }
  | _ => none }
def fnDigitCellRow : OpenClaim := { program := "ytjffppabpdimkaa", sum := "c8f4282c1db092ea91f2edfb882fd59865bcc2b800308637c5683dffc5cd240b", func := "loop.example/braille/laws.FnDigitCell", spec := "fnDigitCell", apart := false }
def FnDigitCellSaid : Prop := fnDigitCellRow.holds Try.pinned (OpenSpec.ofChange fnDigitCellSpec)

/-- ITS FALSE NEIGHBOUR: 'it returns false'. Refute it at one input. -/
def fnDigitCellWrong : ChangeSpec := { name := "fnDigitCell", fn := fun _ => fun
  | [d] => { results := [.lit (.bool false)], args := [d] }
  | _ => none }
def FnDigitCellWrongFalsely : Prop := fnDigitCellRow.holds Try.pinned (OpenSpec.ofChange fnDigitCellWrong)

/-- 'laws.FnDigitOf': WHATEVER THE INPUT: true; the input reads as it did. -/
def fnDigitOfSpec : ChangeSpec := { name := "fnDigitOf", fn := fun _ => fun
  | [d] => { results := [.lit (.bool true)], args := [d] }
  | _ => none }
def fnDigitOfRow : OpenClaim := { program := "ytjffppabpdimkaa", sum := "c8f4282c1db092ea91f2edfb882fd59865bcc2b800308637c5683dffc5cd240b", func := "loop.example/braille/laws.FnDigitOf", spec := "fnDigitOf", apart := false }
def FnDigitOfSaid : Prop := fnDigitOfRow.holds Try.pinned (OpenSpec.ofChange fnDigitOfSpec)

/-- ITS FALSE NEIGHBOUR: 'it returns false'. Refute it at one input. -/
def fnDigitOfWrong : ChangeSpec := { name := "fnDigitOf", fn := fun _ => fun
  | [d] => { results := [.lit (.bool false)], args := [d] }
  | _ => none }
def FnDigitOfWrongFalsely : Prop := fnDigitOfRow.holds Try.pinned (OpenSpec.ofChange fnDigitOfWrong)

/- THE SECOND FORM. 'bulk': how many values and letters a reading holds, each counted each time it is reached (what is shared counts as often as it is met; a slice's spare places count too). A statement '..UptoSaid' is the law's where the arguments, and the package variables that the reading takes, are together of bulk at most 1048576: NARROWER than '..Said'. Prove '..Said' where nothing that the law and all that it calls make is longer than what came in: it says more and counts as full. Else prove '..UptoSaid'. A law counts once. -/
mutual
def uptoBulk {H : Type} : DataW H → Nat
  | .lit (.string bytes) => bytes.length + 1
  | .lit _ => 1
  | .nil => 1
  | .ptr d => uptoBulk d + 1
  | .slice elems spare => uptoBulkAll elems + uptoBulkAll spare + 1
  | .agg parts => uptoBulkAll parts + 1
  | .iface _ d => uptoBulk d + 1
  | .map entries => uptoBulkEntries entries + 1
  | .held _ => 1
def uptoBulkAll {H : Type} : List (DataW H) → Nat
  | [] => 0
  | d :: r => uptoBulk d + uptoBulkAll r
def uptoBulkEntries {H : Type} : List (Lit × DataW H) → Nat
  | [] => 0
  | x :: r => uptoBulkEntry x + uptoBulkEntries r
def uptoBulkEntry {H : Type} : Lit × DataW H → Nat
  | (.string bytes, d) => bytes.length + uptoBulk d + 1
  | (_, d) => uptoBulk d + 1
 end
def uptoSmall : (H : Type) → List (DataW H) → Bool := fun _ ds => decide (uptoBulkAll ds ≤ 1048576)
def OpenSpec.upto (s : _root_.Go.ChangeSpec) : _root_.Go.OpenSpec := { _root_.Go.OpenSpec.ofChange s with cond := some uptoSmall }

/-- 'laws.FnValidCells', WHERE WHAT IT READS IS OF BULK AT MOST 1048576: true; the input reads as it did. -/
def fnValidCellsUptoRow : OpenClaim := { program := "ytjffppabpdimkaa", sum := "c8f4282c1db092ea91f2edfb882fd59865bcc2b800308637c5683dffc5cd240b", func := "loop.example/braille/laws.FnValidCells", spec := "fnValidCells", apart := false, narrowed := true }
def FnValidCellsUptoSaid : Prop := fnValidCellsUptoRow.holds Try.pinned (OpenSpec.upto fnValidCellsSpec)

/-- 'laws.FnDotsOf', WHERE WHAT IT READS IS OF BULK AT MOST 1048576: true; the input reads as it did. -/
def fnDotsOfUptoRow : OpenClaim := { program := "ytjffppabpdimkaa", sum := "c8f4282c1db092ea91f2edfb882fd59865bcc2b800308637c5683dffc5cd240b", func := "loop.example/braille/laws.FnDotsOf", spec := "fnDotsOf", apart := false, narrowed := true }
def FnDotsOfUptoSaid : Prop := fnDotsOfUptoRow.holds Try.pinned (OpenSpec.upto fnDotsOfSpec)

/-- 'laws.FnCellOf', WHERE WHAT IT READS IS OF BULK AT MOST 1048576: true; the input reads as it did. -/
def fnCellOfUptoRow : OpenClaim := { program := "ytjffppabpdimkaa", sum := "c8f4282c1db092ea91f2edfb882fd59865bcc2b800308637c5683dffc5cd240b", func := "loop.example/braille/laws.FnCellOf", spec := "fnCellOf", apart := false, narrowed := true }
def FnCellOfUptoSaid : Prop := fnCellOfUptoRow.holds Try.pinned (OpenSpec.upto fnCellOfSpec)

/-- 'laws.FnMirror', WHERE WHAT IT READS IS OF BULK AT MOST 1048576: true; the input reads as it did. -/
def fnMirrorUptoRow : OpenClaim := { program := "ytjffppabpdimkaa", sum := "c8f4282c1db092ea91f2edfb882fd59865bcc2b800308637c5683dffc5cd240b", func := "loop.example/braille/laws.FnMirror", spec := "fnMirror", apart := false, narrowed := true }
def FnMirrorUptoSaid : Prop := fnMirrorUptoRow.holds Try.pinned (OpenSpec.upto fnMirrorSpec)

/-- 'laws.FnFormatCells', WHERE WHAT IT READS IS OF BULK AT MOST 1048576: true; the input reads as it did. -/
def fnFormatCellsUptoRow : OpenClaim := { program := "ytjffppabpdimkaa", sum := "c8f4282c1db092ea91f2edfb882fd59865bcc2b800308637c5683dffc5cd240b", func := "loop.example/braille/laws.FnFormatCells", spec := "fnFormatCells", apart := false, narrowed := true }
def FnFormatCellsUptoSaid : Prop := fnFormatCellsUptoRow.holds Try.pinned (OpenSpec.upto fnFormatCellsSpec)

/-- 'laws.FnFormatCellsParts', WHERE WHAT IT READS IS OF BULK AT MOST 1048576: true; the input reads as it did. -/
def fnFormatCellsPartsUptoRow : OpenClaim := { program := "ytjffppabpdimkaa", sum := "c8f4282c1db092ea91f2edfb882fd59865bcc2b800308637c5683dffc5cd240b", func := "loop.example/braille/laws.FnFormatCellsParts", spec := "fnFormatCellsParts", apart := false, narrowed := true }
def FnFormatCellsPartsUptoSaid : Prop := fnFormatCellsPartsUptoRow.holds Try.pinned (OpenSpec.upto fnFormatCellsPartsSpec)

/-- 'laws.FnParseCells', WHERE WHAT IT READS IS OF BULK AT MOST 1048576: true; the input reads as it did. -/
def fnParseCellsUptoRow : OpenClaim := { program := "ytjffppabpdimkaa", sum := "c8f4282c1db092ea91f2edfb882fd59865bcc2b800308637c5683dffc5cd240b", func := "loop.example/braille/laws.FnParseCells", spec := "fnParseCells", apart := false, narrowed := true }
def FnParseCellsUptoSaid : Prop := fnParseCellsUptoRow.holds Try.pinned (OpenSpec.upto fnParseCellsSpec)

/-- 'laws.FnLetterCell', WHERE WHAT IT READS IS OF BULK AT MOST 1048576: true; the input reads as it did. -/
def fnLetterCellUptoRow : OpenClaim := { program := "ytjffppabpdimkaa", sum := "c8f4282c1db092ea91f2edfb882fd59865bcc2b800308637c5683dffc5cd240b", func := "loop.example/braille/laws.FnLetterCell", spec := "fnLetterCell", apart := false, narrowed := true }
def FnLetterCellUptoSaid : Prop := fnLetterCellUptoRow.holds Try.pinned (OpenSpec.upto fnLetterCellSpec)

/-- 'laws.FnLetterCellDecades', WHERE WHAT IT READS IS OF BULK AT MOST 1048576: true; the input reads as it did. -/
def fnLetterCellDecadesUptoRow : OpenClaim := { program := "ytjffppabpdimkaa", sum := "c8f4282c1db092ea91f2edfb882fd59865bcc2b800308637c5683dffc5cd240b", func := "loop.example/braille/laws.FnLetterCellDecades", spec := "fnLetterCellDecades", apart := false, narrowed := true }
def FnLetterCellDecadesUptoSaid : Prop := fnLetterCellDecadesUptoRow.holds Try.pinned (OpenSpec.upto fnLetterCellDecadesSpec)

/-- 'laws.FnLetterOf', WHERE WHAT IT READS IS OF BULK AT MOST 1048576: true; the input reads as it did. -/
def fnLetterOfUptoRow : OpenClaim := { program := "ytjffppabpdimkaa", sum := "c8f4282c1db092ea91f2edfb882fd59865bcc2b800308637c5683dffc5cd240b", func := "loop.example/braille/laws.FnLetterOf", spec := "fnLetterOf", apart := false, narrowed := true }
def FnLetterOfUptoSaid : Prop := fnLetterOfUptoRow.holds Try.pinned (OpenSpec.upto fnLetterOfSpec)

/-- 'laws.FnDigitCell', WHERE WHAT IT READS IS OF BULK AT MOST 1048576: true; the input reads as it did. -/
def fnDigitCellUptoRow : OpenClaim := { program := "ytjffppabpdimkaa", sum := "c8f4282c1db092ea91f2edfb882fd59865bcc2b800308637c5683dffc5cd240b", func := "loop.example/braille/laws.FnDigitCell", spec := "fnDigitCell", apart := false, narrowed := true }
def FnDigitCellUptoSaid : Prop := fnDigitCellUptoRow.holds Try.pinned (OpenSpec.upto fnDigitCellSpec)

/-- 'laws.FnDigitOf', WHERE WHAT IT READS IS OF BULK AT MOST 1048576: true; the input reads as it did. -/
def fnDigitOfUptoRow : OpenClaim := { program := "ytjffppabpdimkaa", sum := "c8f4282c1db092ea91f2edfb882fd59865bcc2b800308637c5683dffc5cd240b", func := "loop.example/braille/laws.FnDigitOf", spec := "fnDigitOf", apart := false, narrowed := true }
def FnDigitOfUptoSaid : Prop := fnDigitOfUptoRow.holds Try.pinned (OpenSpec.upto fnDigitOfSpec)

end Rows
end Go.Proofs.Ytjffppabpdimkaa
