/-
  No cell of these rows narrows 'for every input' (looked for: loops, veiled, ifaces, maps, wideKeys, modest, calm, conditions, laid).
  DERIVED. THE GIVEN ROWS OF THIS SEAT. 11 by the template 'for every input the law returns true; each argument reads behind the call as it read before'; 0 by the template 'total and deterministic' (their statements: YtjffppabpdimkacTotals.lean).
  GIVEN WITH THE SEED: the statements are not yours to turn. If you find one false, say at which input.
  Laid BY PROGRAM, IN A SANDBOX (cutbox-rows.mjs): the forced cells as the released guide's own fill.sh prints them over the translation f35eb28c0169a856… (all of the seat's roots in one cut). By AI agents, Wed Nov 11 2026. No macro, syntax, notation, axiom, sorry.
-/
import Derived.Test.YtjffppabpdimkacChecked
import GoSem.Claim
import GoSem.ClaimJoined
import GoSem.ClaimMapViews
import Derived.JoinedTies
import Derived.KernelRfl
namespace Go.Proofs.Ytjffppabpdimkac
/- THE CELL 'sum', in the pinned program and in every row, IS THE sha256 OF THE DUMP (.gsa) THAT YtjffppabpdimkacProg.lean LOADS. Nothing in Lean hashes anything: it is a label: what it is worth is what the hold of that sum in a sandbox is worth. -/
noncomputable def Try.pinned : Pinned := { name := "ytjffppabpdimkac", sum := "f35eb28c0169a856c70c7a684acffda0ea215802ea3c77df7a9bed300032b930", checked := Try.checked }
namespace Rows
def none {H : Type} : Left H := { results := [], args := [] }

/-- 'laws.FnExactMirror': WHATEVER THE INPUT: true; the input reads as it did. -/
def fnExactMirrorSpec : ChangeSpec := { name := "fnExactMirror", fn := fun _ => fun
  | [d] => { results := [.lit (.bool true)], args := [d] }
  | _ => none }
def fnExactMirrorRow : OpenClaim := { program := "ytjffppabpdimkac", sum := "f35eb28c0169a856c70c7a684acffda0ea215802ea3c77df7a9bed300032b930", func := "loop.example/braille/laws.FnExactMirror", spec := "fnExactMirror", apart := false }
def FnExactMirrorSaid : Prop := fnExactMirrorRow.holds Try.pinned (OpenSpec.ofChange fnExactMirrorSpec)

/-- ITS FALSE NEIGHBOUR: 'it returns false'. Refute it at one input. -/
def fnExactMirrorWrong : ChangeSpec := { name := "fnExactMirror", fn := fun _ => fun
  | [d] => { results := [.lit (.bool false)], args := [d] }
  | _ => none }
def FnExactMirrorWrongFalsely : Prop := fnExactMirrorRow.holds Try.pinned (OpenSpec.ofChange fnExactMirrorWrong)

/-- 'laws.FnExactFormatCells': WHATEVER THE INPUT: true; the input reads as it did. -/
def fnExactFormatCellsSpec : ChangeSpec := { name := "fnExactFormatCells", fn := fun _ => fun
  | [d] => { results := [.lit (.bool true)], args := [d] }
  | _ => none }
def fnExactFormatCellsRow : OpenClaim := { program := "ytjffppabpdimkac", sum := "f35eb28c0169a856c70c7a684acffda0ea215802ea3c77df7a9bed300032b930", func := "loop.example/braille/laws.FnExactFormatCells", spec := "fnExactFormatCells", apart := false }
def FnExactFormatCellsSaid : Prop := fnExactFormatCellsRow.holds Try.pinned (OpenSpec.ofChange fnExactFormatCellsSpec)

/-- ITS FALSE NEIGHBOUR: 'it returns false'. Refute it at one input. -/
def fnExactFormatCellsWrong : ChangeSpec := { name := "fnExactFormatCells", fn := fun _ => fun
  | [d] => { results := [.lit (.bool false)], args := [d] }
  | _ => none }
def FnExactFormatCellsWrongFalsely : Prop := fnExactFormatCellsRow.holds Try.pinned (OpenSpec.ofChange fnExactFormatCellsWrong)

/-- 'laws.FnExactParseCells': WHATEVER THE INPUT: true; the input reads as it did. -/
def fnExactParseCellsSpec : ChangeSpec := { name := "fnExactParseCells", fn := fun _ => fun
  | [d] => { results := [.lit (.bool true)], args := [d] }
  | _ => none }
def fnExactParseCellsRow : OpenClaim := { program := "ytjffppabpdimkac", sum := "f35eb28c0169a856c70c7a684acffda0ea215802ea3c77df7a9bed300032b930", func := "loop.example/braille/laws.FnExactParseCells", spec := "fnExactParseCells", apart := false }
def FnExactParseCellsSaid : Prop := fnExactParseCellsRow.holds Try.pinned (OpenSpec.ofChange fnExactParseCellsSpec)

/-- ITS FALSE NEIGHBOUR: 'it returns false'. Refute it at one input. -/
def fnExactParseCellsWrong : ChangeSpec := { name := "fnExactParseCells", fn := fun _ => fun
  | [d] => { results := [.lit (.bool false)], args := [d] }
  | _ => none }
def FnExactParseCellsWrongFalsely : Prop := fnExactParseCellsRow.holds Try.pinned (OpenSpec.ofChange fnExactParseCellsWrong)

/-- 'laws.FnExactLetterCell': WHATEVER THE INPUT: true; the input reads as it did. -/
def fnExactLetterCellSpec : ChangeSpec := { name := "fnExactLetterCell", fn := fun _ => fun
  | [d] => { results := [.lit (.bool true)], args := [d] }
  | _ => none }
def fnExactLetterCellRow : OpenClaim := { program := "ytjffppabpdimkac", sum := "f35eb28c0169a856c70c7a684acffda0ea215802ea3c77df7a9bed300032b930", func := "loop.example/braille/laws.FnExactLetterCell", spec := "fnExactLetterCell", apart := false }
def FnExactLetterCellSaid : Prop := fnExactLetterCellRow.holds Try.pinned (OpenSpec.ofChange fnExactLetterCellSpec)

/-- ITS FALSE NEIGHBOUR: 'it returns false'. Refute it at one input. -/
def fnExactLetterCellWrong : ChangeSpec := { name := "fnExactLetterCell", fn := fun _ => fun
  | [d] => { results := [.lit (.bool false)], args := [d] }
  | _ => none }
def FnExactLetterCellWrongFalsely : Prop := fnExactLetterCellRow.holds Try.pinned (OpenSpec.ofChange fnExactLetterCellWrong)

/-- 'laws.FnExactLetterOf': WHATEVER THE INPUT: true; the input reads as it did. -/
def fnExactLetterOfSpec : ChangeSpec := { name := "fnExactLetterOf", fn := fun _ => fun
  | [d] => { results := [.lit (.bool true)], args := [d] }
  | _ => none }
def fnExactLetterOfRow : OpenClaim := { program := "ytjffppabpdimkac", sum := "f35eb28c0169a856c70c7a684acffda0ea215802ea3c77df7a9bed300032b930", func := "loop.example/braille/laws.FnExactLetterOf", spec := "fnExactLetterOf", apart := false }
def FnExactLetterOfSaid : Prop := fnExactLetterOfRow.holds Try.pinned (OpenSpec.ofChange fnExactLetterOfSpec)

/-- ITS FALSE NEIGHBOUR: 'it returns false'. Refute it at one input. -/
def fnExactLetterOfWrong : ChangeSpec := { name := "fnExactLetterOf", fn := fun _ => fun
  | [d] => { results := [.lit (.bool false)], args := [d] }
  | _ => none }
def FnExactLetterOfWrongFalsely : Prop := fnExactLetterOfRow.holds Try.pinned (OpenSpec.ofChange fnExactLetterOfWrong)

/-- 'laws.FnExactDigitCell': WHATEVER THE INPUT: true; the input reads as it did. -/
def fnExactDigitCellSpec : ChangeSpec := { name := "fnExactDigitCell", fn := fun _ => fun
  | [d] => { results := [.lit (.bool true)], args := [d] }
  | _ => none }
def fnExactDigitCellRow : OpenClaim := { program := "ytjffppabpdimkac", sum := "f35eb28c0169a856c70c7a684acffda0ea215802ea3c77df7a9bed300032b930", func := "loop.example/braille/laws.FnExactDigitCell", spec := "fnExactDigitCell", apart := false }
def FnExactDigitCellSaid : Prop := fnExactDigitCellRow.holds Try.pinned (OpenSpec.ofChange fnExactDigitCellSpec)

/-- ITS FALSE NEIGHBOUR: 'it returns false'. Refute it at one input. -/
def fnExactDigitCellWrong : ChangeSpec := { name := "fnExactDigitCell", fn := fun _ => fun
  | [d] => { results := [.lit (.bool false)], args := [d] }
  | _ => none }
def FnExactDigitCellWrongFalsely : Prop := fnExactDigitCellRow.holds Try.pinned (OpenSpec.ofChange fnExactDigitCellWrong)

/-- 'laws.FnExactDigitOf': WHATEVER THE INPUT: true; the input reads as it did. -/
def fnExactDigitOfSpec : ChangeSpec := { name := "fnExactDigitOf", fn := fun _ => fun
  | [d] => { results := [.lit (.bool true)], args := [d] }
  | _ => none }
def fnExactDigitOfRow : OpenClaim := { program := "ytjffppabpdimkac", sum := "f35eb28c0169a856c70c7a684acffda0ea215802ea3c77df7a9bed300032b930", func := "loop.example/braille/laws.FnExactDigitOf", spec := "fnExactDigitOf", apart := false }
def FnExactDigitOfSaid : Prop := fnExactDigitOfRow.holds Try.pinned (OpenSpec.ofChange fnExactDigitOfSpec)

/-- ITS FALSE NEIGHBOUR: 'it returns false'. Refute it at one input. -/
def fnExactDigitOfWrong : ChangeSpec := { name := "fnExactDigitOf", fn := fun _ => fun
  | [d] => { results := [.lit (.bool false)], args := [d] }
  | _ => none }
def FnExactDigitOfWrongFalsely : Prop := fnExactDigitOfRow.holds Try.pinned (OpenSpec.ofChange fnExactDigitOfWrong)

/-- 'laws.FnExactMarkCell': WHATEVER THE INPUT: true; the input reads as it did. -/
def fnExactMarkCellSpec : ChangeSpec := { name := "fnExactMarkCell", fn := fun _ => fun
  | [d] => { results := [.lit (.bool true)], args := [d] }
  | _ => none }
def fnExactMarkCellRow : OpenClaim := { program := "ytjffppabpdimkac", sum := "f35eb28c0169a856c70c7a684acffda0ea215802ea3c77df7a9bed300032b930", func := "loop.example/braille/laws.FnExactMarkCell", spec := "fnExactMarkCell", apart := false }
def FnExactMarkCellSaid : Prop := fnExactMarkCellRow.holds Try.pinned (OpenSpec.ofChange fnExactMarkCellSpec)

/-- ITS FALSE NEIGHBOUR: 'it returns false'. Refute it at one input. -/
def fnExactMarkCellWrong : ChangeSpec := { name := "fnExactMarkCell", fn := fun _ => fun
  | [d] => { results := [.lit (.bool false)], args := [d] }
  | _ => none }
def FnExactMarkCellWrongFalsely : Prop := fnExactMarkCellRow.holds Try.pinned (OpenSpec.ofChange fnExactMarkCellWrong)

/-- 'laws.FnExactValidText': WHATEVER THE INPUT: true; the input reads as it did. -/
def fnExactValidTextSpec : ChangeSpec := { name := "fnExactValidText", fn := fun _ => fun
  | [d] => { results := [.lit (.bool true)], args := [d] }
  | _ => none }
def fnExactValidTextRow : OpenClaim := { program := "ytjffppabpdimkac", sum := "f35eb28c0169a856c70c7a684acffda0ea215802ea3c77df7a9bed300032b930", func := "loop.example/braille/laws.FnExactValidText", spec := "fnExactValidText", apart := false }
def FnExactValidTextSaid : Prop := fnExactValidTextRow.holds Try.pinned (OpenSpec.ofChange fnExactValidTextSpec)

/-- ITS FALSE NEIGHBOUR: 'it returns false'. Refute it at one input. -/
def fnExactValidTextWrong : ChangeSpec := { name := "fnExactValidText", fn := fun _ => fun
  | [d] => { results := [.lit (.bool false)], args := [d] }
  | _ => none }
def FnExactValidTextWrongFalsely : Prop := fnExactValidTextRow.holds Try.pinned (OpenSpec.ofChange fnExactValidTextWrong)

/-- 'laws.FnExactPlainCells': WHATEVER THE INPUT: true; the input reads as it did. -/
def fnExactPlainCellsSpec : ChangeSpec := { name := "fnExactPlainCells", fn := fun _ => fun
  | [d] => { results := [.lit (.bool true)], args := [d] }
  | _ => none }
def fnExactPlainCellsRow : OpenClaim := { program := "ytjffppabpdimkac", sum := "f35eb28c0169a856c70c7a684acffda0ea215802ea3c77df7a9bed300032b930", func := "loop.example/braille/laws.FnExactPlainCells", spec := "fnExactPlainCells", apart := false }
def FnExactPlainCellsSaid : Prop := fnExactPlainCellsRow.holds Try.pinned (OpenSpec.ofChange fnExactPlainCellsSpec)

/-- ITS FALSE NEIGHBOUR: 'it returns false'. Refute it at one input. -/
def fnExactPlainCellsWrong : ChangeSpec := { name := "fnExactPlainCells", fn := fun _ => fun
  | [d] => { results := [.lit (.bool false)], args := [d] }
  | _ => none }
def FnExactPlainCellsWrongFalsely : Prop := fnExactPlainCellsRow.holds Try.pinned (OpenSpec.ofChange fnExactPlainCellsWrong)

/-- 'laws.FnExactPlainText': WHATEVER THE INPUT: true; the input reads as it did. -/
def fnExactPlainTextSpec : ChangeSpec := { name := "fnExactPlainText", fn := fun _ => fun
  | [d] => { results := [.lit (.bool true)], args := [d] }
  | _ => none }
def fnExactPlainTextRow : OpenClaim := { program := "ytjffppabpdimkac", sum := "f35eb28c0169a856c70c7a684acffda0ea215802ea3c77df7a9bed300032b930", func := "loop.example/braille/laws.FnExactPlainText", spec := "fnExactPlainText", apart := false }
def FnExactPlainTextSaid : Prop := fnExactPlainTextRow.holds Try.pinned (OpenSpec.ofChange fnExactPlainTextSpec)

/-- ITS FALSE NEIGHBOUR: 'it returns false'. Refute it at one input. -/
def fnExactPlainTextWrong : ChangeSpec := { name := "fnExactPlainText", fn := fun _ => fun
  | [d] => { results := [.lit (.bool false)], args := [d] }
  | _ => none }
def FnExactPlainTextWrongFalsely : Prop := fnExactPlainTextRow.holds Try.pinned (OpenSpec.ofChange fnExactPlainTextWrong)

/- THE SECOND FORM. 'bulk': how many values and letters a reading holds, each counted each time it is reached (what is shared counts as often as it is met; a slice's spare places count too). A statement '..UptoSaid' is the law's where the arguments, and the package variables that the reading takes, are together of bulk at most 1048576: NARROWER than '..Said'. Prove '..Said' where nothing that the law and all that it calls make is longer than what came in: it says more and counts as full. Else prove '..UptoSaid'. A law counts once. -/
mutual
def uptoBulk {H : Type} : DataW H → Nat
  | .lit (.string bytes) => bytes.length + 1
  | .lit _ => 1
  | .nil => 1
  | .ptr d => uptoBulk d + 1
  | .slice elems spare => uptoBulkAll elems + uptoBulkAll spare + 1
  | .agg parts => uptoBulkAll parts + 1
  | .iface _ d => uptoBulk d + 1
  | .map entries => uptoBulkEntries entries + 1
  | .held _ => 1
def uptoBulkAll {H : Type} : List (DataW H) → Nat
  | [] => 0
  | d :: r => uptoBulk d + uptoBulkAll r
def uptoBulkEntries {H : Type} : List (Lit × DataW H) → Nat
  | [] => 0
  | x :: r => uptoBulkEntry x + uptoBulkEntries r
def uptoBulkEntry {H : Type} : Lit × DataW H → Nat
  | (.string bytes, d) => bytes.length + uptoBulk d + 1
  | (_, d) => uptoBulk d + 1
 end
def uptoSmall : (H : Type) → List (DataW H) → Bool := fun _ ds => decide (uptoBulkAll ds ≤ 1048576)
def OpenSpec.upto (s : _root_.Go.ChangeSpec) : _root_.Go.OpenSpec := { _root_.Go.OpenSpec.ofChange s with cond := some uptoSmall }

/-- 'laws.FnExactMirror', WHERE WHAT IT READS IS OF BULK AT MOST 1048576: true; the input reads as it did. -/
def fnExactMirrorUptoRow : OpenClaim := { program := "ytjffppabpdimkac", sum := "f35eb28c0169a856c70c7a684acffda0ea215802ea3c77df7a9bed300032b930", func := "loop.example/braille/laws.FnExactMirror", spec := "fnExactMirror", apart := false, narrowed := true }
def FnExactMirrorUptoSaid : Prop := fnExactMirrorUptoRow.holds Try.pinned (OpenSpec.upto fnExactMirrorSpec)

/-- 'laws.FnExactFormatCells', WHERE WHAT IT READS IS OF BULK AT MOST 1048576: true; the input reads as it did. -/
def fnExactFormatCellsUptoRow : OpenClaim := { program := "ytjffppabpdimkac", sum := "f35eb28c0169a856c70c7a684acffda0ea215802ea3c77df7a9bed300032b930", func := "loop.example/braille/laws.FnExactFormatCells", spec := "fnExactFormatCells", apart := false, narrowed := true }
def FnExactFormatCellsUptoSaid : Prop := fnExactFormatCellsUptoRow.holds Try.pinned (OpenSpec.upto fnExactFormatCellsSpec)

/-- 'laws.FnExactParseCells', WHERE WHAT IT READS IS OF BULK AT MOST 1048576: true; the input reads as it did. -/
def fnExactParseCellsUptoRow : OpenClaim := { program := "ytjffppabpdimkac", sum := "f35eb28c0169a856c70c7a684acffda0ea215802ea3c77df7a9bed300032b930", func := "loop.example/braille/laws.FnExactParseCells", spec := "fnExactParseCells", apart := false, narrowed := true }
def FnExactParseCellsUptoSaid : Prop := fnExactParseCellsUptoRow.holds Try.pinned (OpenSpec.upto fnExactParseCellsSpec)

/-- 'laws.FnExactLetterCell', WHERE WHAT IT READS IS OF BULK AT MOST 1048576: true; the input reads as it did. -/
def fnExactLetterCellUptoRow : OpenClaim := { program := "ytjffppabpdimkac", sum := "f35eb28c0169a856c70c7a684acffda0ea215802ea3c77df7a9bed300032b930", func := "loop.example/braille/laws.FnExactLetterCell", spec := "fnExactLetterCell", apart := false, narrowed := true }
def FnExactLetterCellUptoSaid : Prop := fnExactLetterCellUptoRow.holds Try.pinned (OpenSpec.upto fnExactLetterCellSpec)

/-- 'laws.FnExactLetterOf', WHERE WHAT IT READS IS OF BULK AT MOST 1048576: true; the input reads as it did. -/
def fnExactLetterOfUptoRow : OpenClaim := { program := "ytjffppabpdimkac", sum := "f35eb28c0169a856c70c7a684acffda0ea215802ea3c77df7a9bed300032b930", func := "loop.example/braille/laws.FnExactLetterOf", spec := "fnExactLetterOf", apart := false, narrowed := true }
def FnExactLetterOfUptoSaid : Prop := fnExactLetterOfUptoRow.holds Try.pinned (OpenSpec.upto fnExactLetterOfSpec)

/-- 'laws.FnExactDigitCell', WHERE WHAT IT READS IS OF BULK AT MOST 1048576: true; the input reads as it did. -/
def fnExactDigitCellUptoRow : OpenClaim := { program := "ytjffppabpdimkac", sum := "f35eb28c0169a856c70c7a684acffda0ea215802ea3c77df7a9bed300032b930", func := "loop.example/braille/laws.FnExactDigitCell", spec := "fnExactDigitCell", apart := false, narrowed := true }
def FnExactDigitCellUptoSaid : Prop := fnExactDigitCellUptoRow.holds Try.pinned (OpenSpec.upto fnExactDigitCellSpec)

/-- 'laws.FnExactDigitOf', WHERE WHAT IT READS IS OF BULK AT MOST 1048576: true; the input reads as it did. -/
def fnExactDigitOfUptoRow : OpenClaim := { program := "ytjffppabpdimkac", sum := "f35eb28c0169a856c70c7a684acffda0ea215802ea3c77df7a9bed300032b930", func := "loop.example/braille/laws.FnExactDigitOf", spec := "fnExactDigitOf", apart := false, narrowed := true }
def FnExactDigitOfUptoSaid : Prop := fnExactDigitOfUptoRow.holds Try.pinned (OpenSpec.upto fnExactDigitOfSpec)

/-- 'laws.FnExactMarkCell', WHERE WHAT IT READS IS OF BULK AT MOST 1048576: true; the input reads as it did. -/
def fnExactMarkCellUptoRow : OpenClaim := { program := "ytjffppabpdimkac", sum := "f35eb28c0169a856c70c7a684acffda0ea215802ea3c77df7a9bed300032b930", func := "loop.example/braille/laws.FnExactMarkCell", spec := "fnExactMarkCell", apart := false, narrowed := true }
def FnExactMarkCellUptoSaid : Prop := fnExactMarkCellUptoRow.holds Try.pinned (OpenSpec.upto fnExactMarkCellSpec)

/-- 'laws.FnExactValidText', WHERE WHAT IT READS IS OF BULK AT MOST 1048576: true; the input reads as it did. -/
def fnExactValidTextUptoRow : OpenClaim := { program := "ytjffppabpdimkac", sum := "f35eb28c0169a856c70c7a684acffda0ea215802ea3c77df7a9bed300032b930", func := "loop.example/braille/laws.FnExactValidText", spec := "fnExactValidText", apart := false, narrowed := true }
def FnExactValidTextUptoSaid : Prop := fnExactValidTextUptoRow.holds Try.pinned (OpenSpec.upto fnExactValidTextSpec)

/-- 'laws.FnExactPlainCells', WHERE WHAT IT READS IS OF BULK AT MOST 1048576: true; the input reads as it did. -/
def fnExactPlainCellsUptoRow : OpenClaim := { program := "ytjffppabpdimkac", sum := "f35eb28c0169a856c70c7a684acffda0ea215802ea3c77df7a9bed300032b930", func := "loop.example/braille/laws.FnExactPlainCells", spec := "fnExactPlainCells", apart := false, narrowed := true }
def FnExactPlainCellsUptoSaid : Prop := fnExactPlainCellsUptoRow.holds Try.pinned (OpenSpec.upto fnExactPlainCellsSpec)

/-- 'laws.FnExactPlainText', WHERE WHAT IT READS IS OF BULK AT MOST 1048576: true; the input reads as it did. -/
def fnExactPlainTextUptoRow : OpenClaim := { program := "ytjffppabpdimkac", sum := "f35eb28c0169a856c70c7a684acffda0ea215802ea3c77df7a9bed300032b930", func := "loop.example/braille/laws.FnExactPlainText", spec := "fnExactPlainText", apart := false, narrowed := true }
def FnExactPlainTextUptoSaid : Prop := fnExactPlainTextUptoRow.holds Try.pinned (OpenSpec.upto fnExactPlainTextSpec)

end Rows
end Go.Proofs.Ytjffppabpdimkac
