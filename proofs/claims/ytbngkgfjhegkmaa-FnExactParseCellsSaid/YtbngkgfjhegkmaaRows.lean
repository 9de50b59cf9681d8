/-
  No cell of these rows narrows 'for every input' (looked for: loops, veiled, ifaces, maps, wideKeys, modest, calm, conditions, laid).
  DERIVED. THE GIVEN ROWS OF THIS SEAT. 4 by the template 'for every input the law returns true; each argument reads behind the call as it read before'; 0 by the template 'total and deterministic' (their statements: YtbngkgfjhegkmaaTotals.lean).
  GIVEN WITH THE SEED: the statements are not yours to turn. If you find one false, say at which input.
  Laid BY PROGRAM, IN A SANDBOX (cutbox-rows.mjs): the forced cells as the released guide's own fill.sh prints them over the translation e7160b22d9b3ff4f… (all of the seat's roots in one cut). By AI agents, Wed Nov 11 2026. No macro, syntax, notation, axiom, sorry.
-/
import Derived.Test.YtbngkgfjhegkmaaChecked
import GoSem.Claim
import GoSem.ClaimJoined
import GoSem.ClaimMapViews
import Derived.JoinedTies
import Derived.KernelRfl
namespace Go.Proofs.Ytbngkgfjhegkmaa
/- THE CELL 'sum', in the pinned program and in every row, IS THE sha256 OF THE DUMP (.gsa) THAT YtbngkgfjhegkmaaProg.lean LOADS. Nothing in Lean hashes anything: it is a label: what it is worth is what the hold of that sum in a sandbox is worth. -/
noncomputable def Try.pinned : Pinned := { name := "ytbngkgfjhegkmaa", sum := "e7160b22d9b3ff4f1f2acd4ab501d1d20c2c5c50ad7abef877eaf1461061362d", checked := Try.checked }
namespace Rows
def none {H : Type} : Left H := { results := [], args := [] }

/-- 'laws.FnFormatCells': WHATEVER THE INPUT: true; the input reads as it did. -/
def fnFormatCellsSpec : ChangeSpec := { name := "fnFormatCells", fn := fun _ => fun
  | [d] => { results := [.lit (.bool true)], args := [d] }
  | _ => none }
def fnFormatCellsRow : OpenClaim := { program := "ytbngkgfjhegkmaa", sum := "e7160b22d9b3ff4f1f2acd4ab501d1d20c2c5c50ad7abef877eaf1461061362d", func := "loop.example/braille/laws.FnFormatCells", spec := "fnFormatCells", apart := false }
def FnFormatCellsSaid : Prop := fnFormatCellsRow.holds Try.pinned (OpenSpec.ofChange fnFormatCellsSpec)

/-- ITS FALSE NEIGHBOUR: 'it returns false'. Refute it at one input. -/
def fnFormatCellsWrong : ChangeSpec := { name := "fnFormatCells", fn := fun _ => fun
  | [d] => { results := [.lit (.bool false)], args := [d] }
  | _ => none }
def FnFormatCellsWrongFalsely : Prop := fnFormatCellsRow.holds Try.pinned (OpenSpec.ofChange fnFormatCellsWrong)

/-- 'laws.FnParseCells': WHATEVER THE INPUT: true; the input reads as it did. -/
def fnParseCellsSpec : ChangeSpec := { name := "fnParseCells", fn := fun _ => fun
  | [d] => { results := [.lit (.bool true)], args := [d] }
  | _ => none }
def fnParseCellsRow : OpenClaim := { program := "ytbngkgfjhegkmaa", sum := "e7160b22d9b3ff4f1f2acd4ab501d1d20c2c5c50ad7abef877eaf1461061362d", func := "loop.example/braille/laws.FnParseCells", spec := "fnParseCells", apart := false }
def FnParseCellsSaid : Prop := fnParseCellsRow.holds Try.pinned (OpenSpec.ofChange fnParseCellsSpec)

/-- ITS FALSE NEIGHBOUR: 'it returns false'. Refute it at one input. -/
def fnParseCellsWrong : ChangeSpec := { name := "fnParseCells", fn := fun _ => fun
  | [d] => { results := [.lit (.bool false)], args := [d] }
  | _ => none }
def FnParseCellsWrongFalsely : Prop := fnParseCellsRow.holds Try.pinned (OpenSpec.ofChange fnParseCellsWrong)

/-- 'laws.FnParseCellsCount': WHATEVER THE INPUT: true; the input reads as it did. -/
def fnParseCellsCountSpec : ChangeSpec := { name := "fnParseCellsCount", fn := fun _ => fun
  | [d] => { results := [.lit (.bool true)], args := [d] }
  | _ => none }
def fnParseCellsCountRow : OpenClaim := { program := "ytbngkgfjhegkmaa", sum := "e7160b22d9b3ff4f1f2acd4ab501d1d20c2c5c50ad7abef877eaf1461061362d", func := "loop.example/braille/laws.FnParseCellsCount", spec := "fnParseCellsCount", apart := false }
def FnParseCellsCountSaid : Prop := fnParseCellsCountRow.holds Try.pinned (OpenSpec.ofChange fnParseCellsCountSpec)

/-- ITS FALSE NEIGHBOUR: 'it returns false'. Refute it at one input. -/
def fnParseCellsCountWrong : ChangeSpec := { name := "fnParseCellsCount", fn := fun _ => fun
  | [d] => { results := [.lit (.bool false)], args := [d] }
  | _ => none }
def FnParseCellsCountWrongFalsely : Prop := fnParseCellsCountRow.holds Try.pinned (OpenSpec.ofChange fnParseCellsCountWrong)

/-- 'laws.FnExactParseCells': WHATEVER THE INPUT: true; the input reads as it did. -/
def fnExactParseCellsSpec : ChangeSpec := { name := "fnExactParseCells", fn := fun _ => fun
  | [d] => { results := [.lit (.bool true)], args := [d] }
  | _ => none }
def fnExactParseCellsRow : OpenClaim := { program := "ytbngkgfjhegkmaa", sum := "e7160b22d9b3ff4f1f2acd4ab501d1d20c2c5c50ad7abef877eaf1461061362d", func := "loop.example/braille/laws.FnExactParseCells", spec := "fnExactParseCells", apart := false }
def FnExactParseCellsSaid : Prop := fnExactParseCellsRow.holds Try.pinned (OpenSpec.ofChange fnExactParseCellsSpec)

/-- ITS FALSE NEIGHBOUR: 'it returns false'. Refute it at one input. -/
def fnExactParseCellsWrong : ChangeSpec := { name := "fnExactParseCells", fn := fun _ => fun
  | [d] => { results := [.lit (.bool false)], args := [d] }
  | _ => none }
def FnExactParseCellsWrongFalsely : Prop := fnExactParseCellsRow.holds Try.pinned (OpenSpec.ofChange fnExactParseCellsWrong)

/- THE SECOND FORM. 'bulk': how many values and letters a reading holds, each counted each time it is reached (what is shared counts as often as it is met; a slice's spare places count too). A statement '..UptoSaid' is the law's where the arguments, and the package variables that the reading takes, are together of bulk at most 1048576: NARROWER than '..Said'. Prove '..Said' where nothing that the law and all that it calls make is longer than what came in: it says more and counts as full. Else prove '..UptoSaid'. A law counts once. -/
mutual
def uptoBulk {H : Type} : DataW H → Nat
  | .lit (.string bytes) => bytes.length + 1
  | .lit _ => 1
  | .nil => 1
  | .ptr d => uptoBulk d + 1
  | .slice elems spare => uptoBulkAll elems + uptoBulkAll spare + 1
  | .agg parts => uptoBulkAll parts + 1
  | .iface _ d => uptoBulk d + 1
  | .map entries => uptoBulkEntries entries + 1
  | .held _ => 1
def uptoBulkAll {H : Type} : List (DataW H) → Nat
  | [] => 0
  | d :: r => uptoBulk d + uptoBulkAll r
def uptoBulkEntries {H : Type} : List (Lit × DataW H) → Nat
  | [] => 0
  | x :: r => uptoBulkEntry x + uptoBulkEntries r
def uptoBulkEntry {H : Type} : Lit × DataW H → Nat
  | (.string bytes, d) => bytes.length + uptoBulk d + 1
  | (_, d) => uptoBulk d + 1
 end
def uptoSmall : (H : Type) → List (DataW H) → Bool := fun _ ds => decide (uptoBulkAll ds ≤ 1048576)
def OpenSpec.upto (s : _root_.Go.ChangeSpec) : _root_.Go.OpenSpec := { _root_.Go.OpenSpec.ofChange s with cond := some uptoSmall }

/-- 'laws.FnFormatCells', WHERE WHAT IT READS IS OF BULK AT MOST 1048576: true; the input reads as it did. -/
def fnFormatCellsUptoRow : OpenClaim := { program := "ytbngkgfjhegkmaa", sum := "e7160b22d9b3ff4f1f2acd4ab501d1d20c2c5c50ad7abef877eaf1461061362d", func := "loop.example/braille/laws.FnFormatCells", spec := "fnFormatCells", apart := false, narrowed := true }
def FnFormatCellsUptoSaid : Prop := fnFormatCellsUptoRow.holds Try.pinned (OpenSpec.upto fnFormatCellsSpec)

/-- 'laws.FnParseCells', WHERE WHAT IT READS IS OF BULK AT MOST 1048576: true; the input reads as it did. -/
def fnParseCellsUptoRow : OpenClaim := { program := "ytbngkgfjhegkmaa", sum := "e7160b22d9b3ff4f1f2acd4ab501d1d20c2c5c50ad7abef877eaf1461061362d", func := "loop.example/braille/laws.FnParseCells", spec := "fnParseCells", apart := false, narrowed := true }
def FnParseCellsUptoSaid : Prop := fnParseCellsUptoRow.holds Try.pinned (OpenSpec.upto fnParseCellsSpec)

/-- 'laws.FnParseCellsCount', WHERE WHAT IT READS IS OF BULK AT MOST 1048576: true; the input reads as it did. -/
def fnParseCellsCountUptoRow : OpenClaim := { program := "ytbngkgfjhegkmaa", sum := "e7160b22d9b3ff4f1f2acd4ab501d1d20c2c5c50ad7abef877eaf1461061362d", func := "loop.example/braille/laws.FnParseCellsCount", spec := "fnParseCellsCount", apart := false, narrowed := true }
def FnParseCellsCountUptoSaid : Prop := fnParseCellsCountUptoRow.holds Try.pinned (OpenSpec.upto fnParseCellsCountSpec)

/-- 'laws.FnExactParseCells', WHERE WHAT IT READS IS OF BULK AT MOST 1048576: true; the input reads as it did. -/
def fnExactParseCellsUptoRow : OpenClaim := { program := "ytbngkgfjhegkmaa", sum := "e7160b22d9b3ff4f1f2acd4ab501d1d20c2c5c50ad7abef877eaf1461061362d", func := "loop.example/braille/laws.FnExactParseCells", spec := "fnExactParseCells", apart := false, narrowed := true }
def FnExactParseCellsUptoSaid : Prop := fnExactParseCellsUptoRow.holds Try.pinned (OpenSpec.upto fnExactParseCellsSpec)

end Rows
end Go.Proofs.Ytbngkgfjhegkmaa
