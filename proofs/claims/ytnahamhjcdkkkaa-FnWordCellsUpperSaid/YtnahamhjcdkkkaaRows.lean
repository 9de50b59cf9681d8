/-
  No cell of these rows narrows 'for every input' (looked for: loops, veiled, ifaces, maps, wideKeys, modest, calm, conditions, laid).
  DERIVED. THE GIVEN ROWS OF THIS SEAT. 12 by the template 'for every input the law returns true; each argument reads behind the call as it read before'; 0 by the template 'total and deterministic' (their statements: YtnahamhjcdkkkaaTotals.lean).
  GIVEN WITH THE SEED: the statements are not yours to turn. If you find one false, say at which input.
  Laid BY PROGRAM, IN A SANDBOX (cutbox-rows.mjs): the forced cells as the released guide's own fill.sh prints them over the translation 9253cf87f14b2725… (all of the seat's roots in one cut). By AI agents, Wed Nov 11 2026. No macro, syntax, notation, axiom, sorry.
-/
import Derived.Test.YtnahamhjcdkkkaaChecked
import GoSem.Claim
import GoSem.ClaimJoined
import GoSem.ClaimMapViews
import Derived.JoinedTies
import Derived.KernelRfl
namespace Go.Proofs.Ytnahamhjcdkkkaa
/- THE CELL 'sum', in the pinned program and in every row, IS THE sha256 OF THE DUMP (.gsa) THAT YtnahamhjcdkkkaaProg.lean LOADS. Nothing in Lean hashes anything: it is a label: what it is worth is what the hold of that sum in a sandbox is worth. -/
noncomputable def Try.pinned : Pinned := { name := "ytnahamhjcdkkkaa", sum := "9253cf87f14b272511ce3b1ee522434b0c3dd748df68923dbbea3a3e813a3d48", checked := Try.checked }
namespace Rows
def none {H : Type} : Left H := { results := [], args := [] }

/-- 'laws.FnGreedyPieces': WHATEVER THE INPUT: true; the input reads as it did. -/
def fnGreedyPiecesSpec : ChangeSpec := { name := "fnGreedyPieces", fn := fun _ => fun
  | [d] => { results := [.lit (.bool true)], args := [d] }
  | _ => none }
def fnGreedyPiecesRow : OpenClaim := { program := "ytnahamhjcdkkkaa", sum := "9253cf87f14b272511ce3b1ee522434b0c3dd748df68923dbbea3a3e813a3d48", func := "loop.example/braille/laws.FnGreedyPieces", spec := "fnGreedyPieces", apart := false }
def FnGreedyPiecesSaid : Prop := fnGreedyPiecesRow.holds Try.pinned (OpenSpec.ofChange fnGreedyPiecesSpec)

/-- ITS FALSE NEIGHBOUR: 'it returns false'. Refute it at one input. -/
def fnGreedyPiecesWrong : ChangeSpec := { name := "fnGreedyPieces", fn := fun _ => fun
  | [d] => { results := [.lit (.bool false)], args := [d] }
  | _ => none }
def FnGreedyPiecesWrongFalsely : Prop := fnGreedyPiecesRow.holds Try.pinned (OpenSpec.ofChange fnGreedyPiecesWrong)

/-- 'laws.FnGreedyPiecesLong': WHATEVER THE INPUT: true; the input reads as it did. -/
def fnGreedyPiecesLongSpec : ChangeSpec := { name := "fnGreedyPiecesLong", fn := fun _ => fun
  | [d] => { results := [.lit (.bool true)], args := [d] }
  | _ => none }
def fnGreedyPiecesLongRow : OpenClaim := { program := "ytnahamhjcdkkkaa", sum := "9253cf87f14b272511ce3b1ee522434b0c3dd748df68923dbbea3a3e813a3d48", func := "loop.example/braille/laws.FnGreedyPiecesLong", spec := "fnGreedyPiecesLong", apart := false }
def FnGreedyPiecesLongSaid : Prop := fnGreedyPiecesLongRow.holds Try.pinned (OpenSpec.ofChange fnGreedyPiecesLongSpec)

/-- ITS FALSE NEIGHBOUR: 'it returns false'. Refute it at one input. -/
def fnGreedyPiecesLongWrong : ChangeSpec := { name := "fnGreedyPiecesLong", fn := fun _ => fun
  | [d] => { results := [.lit (.bool false)], args := [d] }
  | _ => none }
def FnGreedyPiecesLongWrongFalsely : Prop := fnGreedyPiecesLongRow.holds Try.pinned (OpenSpec.ofChange fnGreedyPiecesLongWrong)

/-- 'laws.FnExactBestPieces': WHATEVER THE INPUT: true; the input reads as it did. -/
def fnExactBestPiecesSpec : ChangeSpec := { name := "fnExactBestPieces", fn := fun _ => fun
  | [d1, d2] => { results := [.lit (.bool true)], args := [d1, d2] }
  | _ => none }
def fnExactBestPiecesRow : OpenClaim := { program := "ytnahamhjcdkkkaa", sum := "9253cf87f14b272511ce3b1ee522434b0c3dd748df68923dbbea3a3e813a3d48", func := "loop.example/braille/laws.FnExactBestPieces", spec := "fnExactBestPieces", apart := false }
def FnExactBestPiecesSaid : Prop := fnExactBestPiecesRow.holds Try.pinned (OpenSpec.ofChange fnExactBestPiecesSpec)

/-- ITS FALSE NEIGHBOUR: 'it returns false'. Refute it at one input. -/
def fnExactBestPiecesWrong : ChangeSpec := { name := "fnExactBestPieces", fn := fun _ => fun
  | [d1, d2] => { results := [.lit (.bool false)], args := [d1, d2] }
  | _ => none }
def FnExactBestPiecesWrongFalsely : Prop := fnExactBestPiecesRow.holds Try.pinned (OpenSpec.ofChange fnExactBestPiecesWrong)

/-- 'laws.FnBestPieces': WHATEVER THE INPUT: true; the input reads as it did. -/
def fnBestPiecesSpec : ChangeSpec := { name := "fnBestPieces", fn := fun _ => fun
  | [d] => { results := [.lit (.bool true)], args := [d] }
  | _ => none }
def fnBestPiecesRow : OpenClaim := { program := "ytnahamhjcdkkkaa", sum := "9253cf87f14b272511ce3b1ee522434b0c3dd748df68923dbbea3a3e813a3d48", func := "loop.example/braille/laws.FnBestPieces", spec := "fnBestPieces", apart := false }
def FnBestPiecesSaid : Prop := fnBestPiecesRow.holds Try.pinned (OpenSpec.ofChange fnBestPiecesSpec)

/-- ITS FALSE NEIGHBOUR: 'it returns false'. Refute it at one input. -/
def fnBestPiecesWrong : ChangeSpec := { name := "fnBestPieces", fn := fun _ => fun
  | [d] => { results := [.lit (.bool false)], args := [d] }
  | _ => none }
def FnBestPiecesWrongFalsely : Prop := fnBestPiecesRow.holds Try.pinned (OpenSpec.ofChange fnBestPiecesWrong)

/-- 'laws.FnBestPiecesNone': WHATEVER THE INPUT: true; the input reads as it did. -/
def fnBestPiecesNoneSpec : ChangeSpec := { name := "fnBestPiecesNone", fn := fun _ => fun
  | [d] => { results := [.lit (.bool true)], args := [d] }
  | _ => none }
def fnBestPiecesNoneRow : OpenClaim := { program := "ytnahamhjcdkkkaa", sum := "9253cf87f14b272511ce3b1ee522434b0c3dd748df68923dbbea3a3e813a3d48", func := "loop.example/braille/laws.FnBestPiecesNone", spec := "fnBestPiecesNone", apart := false }
def FnBestPiecesNoneSaid : Prop := fnBestPiecesNoneRow.holds Try.pinned (OpenSpec.ofChange fnBestPiecesNoneSpec)

/-- ITS FALSE NEIGHBOUR: 'it returns false'. Refute it at one input. -/
def fnBestPiecesNoneWrong : ChangeSpec := { name := "fnBestPiecesNone", fn := fun _ => fun
  | [d] => { results := [.lit (.bool false)], args := [d] }
  | _ => none }
def FnBestPiecesNoneWrongFalsely : Prop := fnBestPiecesNoneRow.holds Try.pinned (OpenSpec.ofChange fnBestPiecesNoneWrong)

/-- 'laws.FnBestPiecesCount': WHATEVER THE INPUT: true; the input reads as it did. -/
def fnBestPiecesCountSpec : ChangeSpec := { name := "fnBestPiecesCount", fn := fun _ => fun
  | [d] => { results := [.lit (.bool true)], args := [d] }
  | _ => none }
def fnBestPiecesCountRow : OpenClaim := { program := "ytnahamhjcdkkkaa", sum := "9253cf87f14b272511ce3b1ee522434b0c3dd748df68923dbbea3a3e813a3d48", func := "loop.example/braille/laws.FnBestPiecesCount", spec := "fnBestPiecesCount", apart := false }
def FnBestPiecesCountSaid : Prop := fnBestPiecesCountRow.holds Try.pinned (OpenSpec.ofChange fnBestPiecesCountSpec)

/-- ITS FALSE NEIGHBOUR: 'it returns false'. Refute it at one input. -/
def fnBestPiecesCountWrong : ChangeSpec := { name := "fnBestPiecesCount", fn := fun _ => fun
  | [d] => { results := [.lit (.bool false)], args := [d] }
  | _ => none }
def FnBestPiecesCountWrongFalsely : Prop := fnBestPiecesCountRow.holds Try.pinned (OpenSpec.ofChange fnBestPiecesCountWrong)

/-- 'laws.FnPiecesCellsLeast': WHATEVER THE INPUT: true; the input reads as it did. -/
def fnPiecesCellsLeastSpec : ChangeSpec := { name := "fnPiecesCellsLeast", fn := fun _ => fun
  | [d] => { results := [.lit (.bool true)], args := [d] }
  | _ => none }
def fnPiecesCellsLeastRow : OpenClaim := { program := "ytnahamhjcdkkkaa", sum := "9253cf87f14b272511ce3b1ee522434b0c3dd748df68923dbbea3a3e813a3d48", func := "loop.example/braille/laws.FnPiecesCellsLeast", spec := "fnPiecesCellsLeast", apart := false }
def FnPiecesCellsLeastSaid : Prop := fnPiecesCellsLeastRow.holds Try.pinned (OpenSpec.ofChange fnPiecesCellsLeastSpec)

/-- ITS FALSE NEIGHBOUR: 'it returns false'. Refute it at one input. -/
def fnPiecesCellsLeastWrong : ChangeSpec := { name := "fnPiecesCellsLeast", fn := fun _ => fun
  | [d] => { results := [.lit (.bool false)], args := [d] }
  | _ => none }
def FnPiecesCellsLeastWrongFalsely : Prop := fnPiecesCellsLeastRow.holds Try.pinned (OpenSpec.ofChange fnPiecesCellsLeastWrong)

/-- 'laws.FnExactWordCells': WHATEVER THE INPUT: true; the input reads as it did. -/
def fnExactWordCellsSpec : ChangeSpec := { name := "fnExactWordCells", fn := fun _ => fun
  | [d1, d2] => { results := [.lit (.bool true)], args := [d1, d2] }
  | _ => none }
def fnExactWordCellsRow : OpenClaim := { program := "ytnahamhjcdkkkaa", sum := "9253cf87f14b272511ce3b1ee522434b0c3dd748df68923dbbea3a3e813a3d48", func := "loop.example/braille/laws.FnExactWordCells", spec := "fnExactWordCells", apart := false }
def FnExactWordCellsSaid : Prop := fnExactWordCellsRow.holds Try.pinned (OpenSpec.ofChange fnExactWordCellsSpec)

/-- ITS FALSE NEIGHBOUR: 'it returns false'. Refute it at one input. -/
def fnExactWordCellsWrong : ChangeSpec := { name := "fnExactWordCells", fn := fun _ => fun
  | [d1, d2] => { results := [.lit (.bool false)], args := [d1, d2] }
  | _ => none }
def FnExactWordCellsWrongFalsely : Prop := fnExactWordCellsRow.holds Try.pinned (OpenSpec.ofChange fnExactWordCellsWrong)

/-- 'laws.FnWordCells': WHATEVER THE INPUT: true; the input reads as it did. -/
def fnWordCellsSpec : ChangeSpec := { name := "fnWordCells", fn := fun _ => fun
  | [d] => { results := [.lit (.bool true)], args := [d] }
  | _ => none }
def fnWordCellsRow : OpenClaim := { program := "ytnahamhjcdkkkaa", sum := "9253cf87f14b272511ce3b1ee522434b0c3dd748df68923dbbea3a3e813a3d48", func := "loop.example/braille/laws.FnWordCells", spec := "fnWordCells", apart := false }
def FnWordCellsSaid : Prop := fnWordCellsRow.holds Try.pinned (OpenSpec.ofChange fnWordCellsSpec)

/-- ITS FALSE NEIGHBOUR: 'it returns false'. Refute it at one input. -/
def fnWordCellsWrong : ChangeSpec := { name := "fnWordCells", fn := fun _ => fun
  | [d] => { results := [.lit (.bool false)], args := [d] }
  | _ => none }
def FnWordCellsWrongFalsely : Prop := fnWordCellsRow.holds Try.pinned (OpenSpec.ofChange fnWordCellsWrong)

/-- 'laws.FnWordCellsLess': WHATEVER THE INPUT: true; the input reads as it did. -/
def fnWordCellsLessSpec : ChangeSpec := { name := "fnWordCellsLess", fn := fun _ => fun
  | [d] => { results := [.lit (.bool true)], args := [d] }
  | _ => none }
def fnWordCellsLessRow : OpenClaim := { program := "ytnahamhjcdkkkaa", sum := "9253cf87f14b272511ce3b1ee522434b0c3dd748df68923dbbea3a3e813a3d48", func := "loop.example/braille/laws.FnWordCellsLess", spec := "fnWordCellsLess", apart := false }
def FnWordCellsLessSaid : Prop := fnWordCellsLessRow.holds Try.pinned (OpenSpec.ofChange fnWordCellsLessSpec)

/-- ITS FALSE NEIGHBOUR: 'it returns false'. Refute it at one input. -/
def fnWordCellsLessWrong : ChangeSpec := { name := "fnWordCellsLess", fn := fun _ => fun
  | [d] => { results := [.lit (.bool false)], args := [d] }
  | _ => none }
def FnWordCellsLessWrongFalsely : Prop := fnWordCellsLessRow.holds Try.pinned (OpenSpec.ofChange fnWordCellsLessWrong)

/-- 'laws.FnWordCellsPlain': WHATEVER THE INPUT: true; the input reads as it did. -/
def fnWordCellsPlainSpec : ChangeSpec := { name := "fnWordCellsPlain", fn := fun _ => fun
  | [d] => { results := [.lit (.bool true)], args := [d] }
  | _ => none }
def fnWordCellsPlainRow : OpenClaim := { program := "ytnahamhjcdkkkaa", sum := "9253cf87f14b272511ce3b1ee522434b0c3dd748df68923dbbea3a3e813a3d48", func := "loop.example/braille/laws.FnWordCellsPlain", spec := "fnWordCellsPlain", apart := false }
def FnWordCellsPlainSaid : Prop := fnWordCellsPlainRow.holds Try.pinned (OpenSpec.ofChange fnWordCellsPlainSpec)

/-- ITS FALSE NEIGHBOUR: 'it returns false'. Refute it at one input. -/
def fnWordCellsPlainWrong : ChangeSpec := { name := "fnWordCellsPlain", fn := fun _ => fun
  | [d] => { results := [.lit (.bool false)], args := [d] }
  | _ => none }
def FnWordCellsPlainWrongFalsely : Prop := fnWordCellsPlainRow.holds Try.pinned (OpenSpec.ofChange fnWordCellsPlainWrong)

/-- 'laws.FnWordCellsUpper': WHATEVER THE INPUT: true; the input reads as it did. -/
def fnWordCellsUpperSpec : ChangeSpec := { name := "fnWordCellsUpper", fn := fun _ => fun
  | [d] => { results := [.lit (.bool true)], args := [d] }
  | _ => none }
def fnWordCellsUpperRow : OpenClaim := { program := "ytnahamhjcdkkkaa", sum := "9253cf87f14b272511ce3b1ee522434b0c3dd748df68923dbbea3a3e813a3d48", func := "loop.example/braille/laws.FnWordCellsUpper", spec := "fnWordCellsUpper", apart := false }
def FnWordCellsUpperSaid : Prop := fnWordCellsUpperRow.holds Try.pinned (OpenSpec.ofChange fnWordCellsUpperSpec)

/-- ITS FALSE NEIGHBOUR: 'it returns false'. Refute it at one input. -/
def fnWordCellsUpperWrong : ChangeSpec := { name := "fnWordCellsUpper", fn := fun _ => fun
  | [d] => { results := [.lit (.bool false)], args := [d] }
  | _ => none }
def FnWordCellsUpperWrongFalsely : Prop := fnWordCellsUpperRow.holds Try.pinned (OpenSpec.ofChange fnWordCellsUpperWrong)

/- THE SECOND FORM. 'bulk': how many values and letters a reading holds, each counted each time it is reached (what is shared counts as often as it is met; a slice's spare places count too). A statement '..UptoSaid' is the law's where the arguments, and the package variables that the reading takes, are together of bulk at most 1048576: NARROWER than '..Said'. Prove '..Said' where nothing that the law and all that it calls make is longer than what came in: it says more and counts as full. Else prove '..UptoSaid'. A law counts once. -/
mutual
def uptoBulk {H : Type} : DataW H → Nat
  | .lit (.string bytes) => bytes.length + 1
  | .lit _ => 1
  | .nil => 1
  | .ptr d => uptoBulk d + 1
  | .slice elems spare => uptoBulkAll elems + uptoBulkAll spare + 1
  | .agg parts => uptoBulkAll parts + 1
  | .iface _ d => uptoBulk d + 1
  | .map entries => uptoBulkEntries entries + 1
  | .held _ => 1
def uptoBulkAll {H : Type} : List (DataW H) → Nat
  | [] => 0
  | d :: r => uptoBulk d + uptoBulkAll r
def uptoBulkEntries {H : Type} : List (Lit × DataW H) → Nat
  | [] => 0
  | x :: r => uptoBulkEntry x + uptoBulkEntries r
def uptoBulkEntry {H : Type} : Lit × DataW H → Nat
  | (.string bytes, d) => bytes.length + uptoBulk d + 1
  | (_, d) => uptoBulk d + 1
 end
def uptoSmall : (H : Type) → List (DataW H) → Bool := fun _ ds => decide (uptoBulkAll ds ≤ 1048576)
def OpenSpec.upto (s : _root_.Go.ChangeSpec) : _root_.Go.OpenSpec := { _root_.Go.OpenSpec.ofChange s with cond := some uptoSmall }

/-- 'laws.FnGreedyPieces', WHERE WHAT IT READS IS OF BULK AT MOST 1048576: true; the input reads as it did. -/
def fnGreedyPiecesUptoRow : OpenClaim := { program := "ytnahamhjcdkkkaa", sum := "9253cf87f14b272511ce3b1ee522434b0c3dd748df68923dbbea3a3e813a3d48", func := "loop.example/braille/laws.FnGreedyPieces", spec := "fnGreedyPieces", apart := false, narrowed := true }
def FnGreedyPiecesUptoSaid : Prop := fnGreedyPiecesUptoRow.holds Try.pinned (OpenSpec.upto fnGreedyPiecesSpec)

/-- 'laws.FnGreedyPiecesLong', WHERE WHAT IT READS IS OF BULK AT MOST 1048576: true; the input reads as it did. -/
def fnGreedyPiecesLongUptoRow : OpenClaim := { program := "ytnahamhjcdkkkaa", sum := "9253cf87f14b272511ce3b1ee522434b0c3dd748df68923dbbea3a3e813a3d48", func := "loop.example/braille/laws.FnGreedyPiecesLong", spec := "fnGreedyPiecesLong", apart := false, narrowed := true }
def FnGreedyPiecesLongUptoSaid : Prop := fnGreedyPiecesLongUptoRow.holds Try.pinned (OpenSpec.upto fnGreedyPiecesLongSpec)

/-- 'laws.FnExactBestPieces', WHERE WHAT IT READS IS OF BULK AT MOST 1048576: true; the input reads as it did. -/
def fnExactBestPiecesUptoRow : OpenClaim := { program := "ytnahamhjcdkkkaa", sum := "9253cf87f14b272511ce3b1ee522434b0c3dd748df68923dbbea3a3e813a3d48", func := "loop.example/braille/laws.FnExactBestPieces", spec := "fnExactBestPieces", apart := false, narrowed := true }
def FnExactBestPiecesUptoSaid : Prop := fnExactBestPiecesUptoRow.holds Try.pinned (OpenSpec.upto fnExactBestPiecesSpec)

/-- 'laws.FnBestPieces', WHERE WHAT IT READS IS OF BULK AT MOST 1048576: true; the input reads as it did. -/
def fnBestPiecesUptoRow : OpenClaim := { program := "ytnahamhjcdkkkaa", sum := "9253cf87f14b272511ce3b1ee522434b0c3dd748df68923dbbea3a3e813a3d48", func := "loop.example/braille/laws.FnBestPieces", spec := "fnBestPieces", apart := false, narrowed := true }
def FnBestPiecesUptoSaid : Prop := fnBestPiecesUptoRow.holds Try.pinned (OpenSpec.upto fnBestPiecesSpec)

/-- 'laws.FnBestPiecesNone', WHERE WHAT IT READS IS OF BULK AT MOST 1048576: true; the input reads as it did. -/
def fnBestPiecesNoneUptoRow : OpenClaim := { program := "ytnahamhjcdkkkaa", sum := "9253cf87f14b272511ce3b1ee522434b0c3dd748df68923dbbea3a3e813a3d48", func := "loop.example/braille/laws.FnBestPiecesNone", spec := "fnBestPiecesNone", apart := false, narrowed := true }
def FnBestPiecesNoneUptoSaid : Prop := fnBestPiecesNoneUptoRow.holds Try.pinned (OpenSpec.upto fnBestPiecesNoneSpec)

/-- 'laws.FnBestPiecesCount', WHERE WHAT IT READS IS OF BULK AT MOST 1048576: true; the input reads as it did. -/
def fnBestPiecesCountUptoRow : OpenClaim := { program := "ytnahamhjcdkkkaa", sum := "9253cf87f14b272511ce3b1ee522434b0c3dd748df68923dbbea3a3e813a3d48", func := "loop.example/braille/laws.FnBestPiecesCount", spec := "fnBestPiecesCount", apart := false, narrowed := true }
def FnBestPiecesCountUptoSaid : Prop := fnBestPiecesCountUptoRow.holds Try.pinned (OpenSpec.upto fnBestPiecesCountSpec)

/-- 'laws.FnPiecesCellsLeast', WHERE WHAT IT READS IS OF BULK AT MOST 1048576: true; the input reads as it did. -/
def fnPiecesCellsLeastUptoRow : OpenClaim := { program := "ytnahamhjcdkkkaa", sum := "9253cf87f14b272511ce3b1ee522434b0c3dd748df68923dbbea3a3e813a3d48", func := "loop.example/braille/laws.FnPiecesCellsLeast", spec := "fnPiecesCellsLeast", apart := false, narrowed := true }
def FnPiecesCellsLeastUptoSaid : Prop := fnPiecesCellsLeastUptoRow.holds Try.pinned (OpenSpec.upto fnPiecesCellsLeastSpec)

/-- 'laws.FnExactWordCells', WHERE WHAT IT READS IS OF BULK AT MOST 1048576: true; the input reads as it did. -/
def fnExactWordCellsUptoRow : OpenClaim := { program := "ytnahamhjcdkkkaa", sum := "9253cf87f14b272511ce3b1ee522434b0c3dd748df68923dbbea3a3e813a3d48", func := "loop.example/braille/laws.FnExactWordCells", spec := "fnExactWordCells", apart := false, narrowed := true }
def FnExactWordCellsUptoSaid : Prop := fnExactWordCellsUptoRow.holds Try.pinned (OpenSpec.upto fnExactWordCellsSpec)

/-- 'laws.FnWordCells', WHERE WHAT IT READS IS OF BULK AT MOST 1048576: true; the input reads as it did. -/
def fnWordCellsUptoRow : OpenClaim := { program := "ytnahamhjcdkkkaa", sum := "9253cf87f14b272511ce3b1ee522434b0c3dd748df68923dbbea3a3e813a3d48", func := "loop.example/braille/laws.FnWordCells", spec := "fnWordCells", apart := false, narrowed := true }
def FnWordCellsUptoSaid : Prop := fnWordCellsUptoRow.holds Try.pinned (OpenSpec.upto fnWordCellsSpec)

/-- 'laws.FnWordCellsLess', WHERE WHAT IT READS IS OF BULK AT MOST 1048576: true; the input reads as it did. -/
def fnWordCellsLessUptoRow : OpenClaim := { program := "ytnahamhjcdkkkaa", sum := "9253cf87f14b272511ce3b1ee522434b0c3dd748df68923dbbea3a3e813a3d48", func := "loop.example/braille/laws.FnWordCellsLess", spec := "fnWordCellsLess", apart := false, narrowed := true }
def FnWordCellsLessUptoSaid : Prop := fnWordCellsLessUptoRow.holds Try.pinned (OpenSpec.upto fnWordCellsLessSpec)

/-- 'laws.FnWordCellsPlain', WHERE WHAT IT READS IS OF BULK AT MOST 1048576: true; the input reads as it did. -/
def fnWordCellsPlainUptoRow : OpenClaim := { program := "ytnahamhjcdkkkaa", sum := "9253cf87f14b272511ce3b1ee522434b0c3dd748df68923dbbea3a3e813a3d48", func := "loop.example/braille/laws.FnWordCellsPlain", spec := "fnWordCellsPlain", apart := false, narrowed := true }
def FnWordCellsPlainUptoSaid : Prop := fnWordCellsPlainUptoRow.holds Try.pinned (OpenSpec.upto fnWordCellsPlainSpec)

/-- 'laws.FnWordCellsUpper', WHERE WHAT IT READS IS OF BULK AT MOST 1048576: true; the input reads as it did. -/
def fnWordCellsUpperUptoRow : OpenClaim := { program := "ytnahamhjcdkkkaa", sum := "9253cf87f14b272511ce3b1ee522434b0c3dd748df68923dbbea3a3e813a3d48", func := "loop.example/braille/laws.FnWordCellsUpper", spec := "fnWordCellsUpper", apart := false, narrowed := true }
def FnWordCellsUpperUptoSaid : Prop := fnWordCellsUpperUptoRow.holds Try.pinned (OpenSpec.upto fnWordCellsUpperSpec)

end Rows
end Go.Proofs.Ytnahamhjcdkkkaa
