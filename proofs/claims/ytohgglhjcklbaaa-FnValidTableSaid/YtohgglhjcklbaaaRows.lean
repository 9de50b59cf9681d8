/-
  No cell of these rows narrows 'for every input' (looked for: loops, veiled, ifaces, maps, wideKeys, modest, calm, conditions, laid).
  DERIVED. THE GIVEN ROWS OF THIS SEAT. 12 by the template 'for every input the law returns true; each argument reads behind the call as it read before'; 0 by the template 'total and deterministic' (their statements: YtohgglhjcklbaaaTotals.lean).
  GIVEN WITH THE SEED: the statements are not yours to turn. If you find one false, say at which input.
  Laid BY PROGRAM, IN A SANDBOX (cutbox-rows.mjs): the forced cells as the released guide's own fill.sh prints them over the translation a789d87dd9049df6… (all of the seat's roots in one cut). By AI agents, Wed Nov 11 2026. No macro, syntax, notation, axiom, sorry.
-/
import Derived.Test.YtohgglhjcklbaaaChecked
import GoSem.Claim
import GoSem.ClaimJoined
import GoSem.ClaimMapViews
import Derived.JoinedTies
import Derived.KernelRfl
namespace Go.Proofs.Ytohgglhjcklbaaa
/- THE CELL 'sum', in the pinned program and in every row, IS THE sha256 OF THE DUMP (.gsa) THAT YtohgglhjcklbaaaProg.lean LOADS. Nothing in Lean hashes anything: it is a label: what it is worth is what the hold of that sum in a sandbox is worth. -/
noncomputable def Try.pinned : Pinned := { name := "ytohgglhjcklbaaa", sum := "a789d87dd9049df6481e0ec4d5fdaac9ab61c1088da4b91d6fab3730ac4e426f", checked := Try.checked }
namespace Rows
def none {H : Type} : Left H := { results := [], args := [] }

/-- 'laws.FnExactPlaceFits': WHATEVER THE INPUT: true; the input reads as it did. -/
def fnExactPlaceFitsSpec : ChangeSpec := { name := "fnExactPlaceFits", fn := fun _ => fun
  | [d1, d2, d3, d4] => { results := [.lit (.bool true)], args := [d1, d2, d3, d4] }
  | _ => none }
def fnExactPlaceFitsRow : OpenClaim := { program := "ytohgglhjcklbaaa", sum := "a789d87dd9049df6481e0ec4d5fdaac9ab61c1088da4b91d6fab3730ac4e426f", func := "loop.example/braille/laws.FnExactPlaceFits", spec := "fnExactPlaceFits", apart := false }
def FnExactPlaceFitsSaid : Prop := fnExactPlaceFitsRow.holds Try.pinned (OpenSpec.ofChange fnExactPlaceFitsSpec)

/-- ITS FALSE NEIGHBOUR: 'it returns false'. Refute it at one input. -/
def fnExactPlaceFitsWrong : ChangeSpec := { name := "fnExactPlaceFits", fn := fun _ => fun
  | [d1, d2, d3, d4] => { results := [.lit (.bool false)], args := [d1, d2, d3, d4] }
  | _ => none }
def FnExactPlaceFitsWrongFalsely : Prop := fnExactPlaceFitsRow.holds Try.pinned (OpenSpec.ofChange fnExactPlaceFitsWrong)

/-- 'laws.FnPlaceFits': WHATEVER THE INPUT: true; the input reads as it did. -/
def fnPlaceFitsSpec : ChangeSpec := { name := "fnPlaceFits", fn := fun _ => fun
  | [d] => { results := [.lit (.bool true)], args := [d] }
  | _ => none }
def fnPlaceFitsRow : OpenClaim := { program := "ytohgglhjcklbaaa", sum := "a789d87dd9049df6481e0ec4d5fdaac9ab61c1088da4b91d6fab3730ac4e426f", func := "loop.example/braille/laws.FnPlaceFits", spec := "fnPlaceFits", apart := false }
def FnPlaceFitsSaid : Prop := fnPlaceFitsRow.holds Try.pinned (OpenSpec.ofChange fnPlaceFitsSpec)

/-- ITS FALSE NEIGHBOUR: 'it returns false'. Refute it at one input. -/
def fnPlaceFitsWrong : ChangeSpec := { name := "fnPlaceFits", fn := fun _ => fun
  | [d] => { results := [.lit (.bool false)], args := [d] }
  | _ => none }
def FnPlaceFitsWrongFalsely : Prop := fnPlaceFitsRow.holds Try.pinned (OpenSpec.ofChange fnPlaceFitsWrong)

/-- 'laws.FnExactValidTable': WHATEVER THE INPUT: true; the input reads as it did. -/
def fnExactValidTableSpec : ChangeSpec := { name := "fnExactValidTable", fn := fun _ => fun
  | [d] => { results := [.lit (.bool true)], args := [d] }
  | _ => none }
def fnExactValidTableRow : OpenClaim := { program := "ytohgglhjcklbaaa", sum := "a789d87dd9049df6481e0ec4d5fdaac9ab61c1088da4b91d6fab3730ac4e426f", func := "loop.example/braille/laws.FnExactValidTable", spec := "fnExactValidTable", apart := false }
def FnExactValidTableSaid : Prop := fnExactValidTableRow.holds Try.pinned (OpenSpec.ofChange fnExactValidTableSpec)

/-- ITS FALSE NEIGHBOUR: 'it returns false'. Refute it at one input. -/
def fnExactValidTableWrong : ChangeSpec := { name := "fnExactValidTable", fn := fun _ => fun
  | [d] => { results := [.lit (.bool false)], args := [d] }
  | _ => none }
def FnExactValidTableWrongFalsely : Prop := fnExactValidTableRow.holds Try.pinned (OpenSpec.ofChange fnExactValidTableWrong)

/-- 'laws.FnValidTable': WHATEVER THE INPUT: true; the input reads as it did. -/
def fnValidTableSpec : ChangeSpec := { name := "fnValidTable", fn := fun _ => fun
  | [d] => { results := [.lit (.bool true)], args := [d] }
  | _ => none }
def fnValidTableRow : OpenClaim := { program := "ytohgglhjcklbaaa", sum := "a789d87dd9049df6481e0ec4d5fdaac9ab61c1088da4b91d6fab3730ac4e426f", func := "loop.example/braille/laws.FnValidTable", spec := "fnValidTable", apart := false }
def FnValidTableSaid : Prop := fnValidTableRow.holds Try.pinned (OpenSpec.ofChange fnValidTableSpec)

/-- ITS FALSE NEIGHBOUR: 'it returns false'. Refute it at one input. -/
def fnValidTableWrong : ChangeSpec := { name := "fnValidTable", fn := fun _ => fun
  | [d] => { results := [.lit (.bool false)], args := [d] }
  | _ => none }
def FnValidTableWrongFalsely : Prop := fnValidTableRow.holds Try.pinned (OpenSpec.ofChange fnValidTableWrong)

/-- 'laws.FnExactRulesAt': WHATEVER THE INPUT: true; the input reads as it did. -/
def fnExactRulesAtSpec : ChangeSpec := { name := "fnExactRulesAt", fn := fun _ => fun
  | [d1, d2, d3] => { results := [.lit (.bool true)], args := [d1, d2, d3] }
  | _ => none }
def fnExactRulesAtRow : OpenClaim := { program := "ytohgglhjcklbaaa", sum := "a789d87dd9049df6481e0ec4d5fdaac9ab61c1088da4b91d6fab3730ac4e426f", func := "loop.example/braille/laws.FnExactRulesAt", spec := "fnExactRulesAt", apart := false }
def FnExactRulesAtSaid : Prop := fnExactRulesAtRow.holds Try.pinned (OpenSpec.ofChange fnExactRulesAtSpec)

/-- ITS FALSE NEIGHBOUR: 'it returns false'. Refute it at one input. -/
def fnExactRulesAtWrong : ChangeSpec := { name := "fnExactRulesAt", fn := fun _ => fun
  | [d1, d2, d3] => { results := [.lit (.bool false)], args := [d1, d2, d3] }
  | _ => none }
def FnExactRulesAtWrongFalsely : Prop := fnExactRulesAtRow.holds Try.pinned (OpenSpec.ofChange fnExactRulesAtWrong)

/-- 'laws.FnRulesAt': WHATEVER THE INPUT: true; the input reads as it did. -/
def fnRulesAtSpec : ChangeSpec := { name := "fnRulesAt", fn := fun _ => fun
  | [d] => { results := [.lit (.bool true)], args := [d] }
  | _ => none }
def fnRulesAtRow : OpenClaim := { program := "ytohgglhjcklbaaa", sum := "a789d87dd9049df6481e0ec4d5fdaac9ab61c1088da4b91d6fab3730ac4e426f", func := "loop.example/braille/laws.FnRulesAt", spec := "fnRulesAt", apart := false }
def FnRulesAtSaid : Prop := fnRulesAtRow.holds Try.pinned (OpenSpec.ofChange fnRulesAtSpec)

/-- ITS FALSE NEIGHBOUR: 'it returns false'. Refute it at one input. -/
def fnRulesAtWrong : ChangeSpec := { name := "fnRulesAt", fn := fun _ => fun
  | [d] => { results := [.lit (.bool false)], args := [d] }
  | _ => none }
def FnRulesAtWrongFalsely : Prop := fnRulesAtRow.holds Try.pinned (OpenSpec.ofChange fnRulesAtWrong)

/-- 'laws.FnRulesAtLess': WHATEVER THE INPUT: true; the input reads as it did. -/
def fnRulesAtLessSpec : ChangeSpec := { name := "fnRulesAtLess", fn := fun _ => fun
  | [d] => { results := [.lit (.bool true)], args := [d] }
  | _ => none }
def fnRulesAtLessRow : OpenClaim := { program := "ytohgglhjcklbaaa", sum := "a789d87dd9049df6481e0ec4d5fdaac9ab61c1088da4b91d6fab3730ac4e426f", func := "loop.example/braille/laws.FnRulesAtLess", spec := "fnRulesAtLess", apart := false }
def FnRulesAtLessSaid : Prop := fnRulesAtLessRow.holds Try.pinned (OpenSpec.ofChange fnRulesAtLessSpec)

/-- ITS FALSE NEIGHBOUR: 'it returns false'. Refute it at one input. -/
def fnRulesAtLessWrong : ChangeSpec := { name := "fnRulesAtLess", fn := fun _ => fun
  | [d] => { results := [.lit (.bool false)], args := [d] }
  | _ => none }
def FnRulesAtLessWrongFalsely : Prop := fnRulesAtLessRow.holds Try.pinned (OpenSpec.ofChange fnRulesAtLessWrong)

/-- 'laws.FnExactValidPieces': WHATEVER THE INPUT: true; the input reads as it did. -/
def fnExactValidPiecesSpec : ChangeSpec := { name := "fnExactValidPieces", fn := fun _ => fun
  | [d1, d2, d3] => { results := [.lit (.bool true)], args := [d1, d2, d3] }
  | _ => none }
def fnExactValidPiecesRow : OpenClaim := { program := "ytohgglhjcklbaaa", sum := "a789d87dd9049df6481e0ec4d5fdaac9ab61c1088da4b91d6fab3730ac4e426f", func := "loop.example/braille/laws.FnExactValidPieces", spec := "fnExactValidPieces", apart := false }
def FnExactValidPiecesSaid : Prop := fnExactValidPiecesRow.holds Try.pinned (OpenSpec.ofChange fnExactValidPiecesSpec)

/-- ITS FALSE NEIGHBOUR: 'it returns false'. Refute it at one input. -/
def fnExactValidPiecesWrong : ChangeSpec := { name := "fnExactValidPieces", fn := fun _ => fun
  | [d1, d2, d3] => { results := [.lit (.bool false)], args := [d1, d2, d3] }
  | _ => none }
def FnExactValidPiecesWrongFalsely : Prop := fnExactValidPiecesRow.holds Try.pinned (OpenSpec.ofChange fnExactValidPiecesWrong)

/-- 'laws.FnValidPieces': WHATEVER THE INPUT: true; the input reads as it did. -/
def fnValidPiecesSpec : ChangeSpec := { name := "fnValidPieces", fn := fun _ => fun
  | [d] => { results := [.lit (.bool true)], args := [d] }
  | _ => none }
def fnValidPiecesRow : OpenClaim := { program := "ytohgglhjcklbaaa", sum := "a789d87dd9049df6481e0ec4d5fdaac9ab61c1088da4b91d6fab3730ac4e426f", func := "loop.example/braille/laws.FnValidPieces", spec := "fnValidPieces", apart := false }
def FnValidPiecesSaid : Prop := fnValidPiecesRow.holds Try.pinned (OpenSpec.ofChange fnValidPiecesSpec)

/-- ITS FALSE NEIGHBOUR: 'it returns false'. Refute it at one input. -/
def fnValidPiecesWrong : ChangeSpec := { name := "fnValidPieces", fn := fun _ => fun
  | [d] => { results := [.lit (.bool false)], args := [d] }
  | _ => none }
def FnValidPiecesWrongFalsely : Prop := fnValidPiecesRow.holds Try.pinned (OpenSpec.ofChange fnValidPiecesWrong)

/-- 'laws.FnExactPiecesCells': WHATEVER THE INPUT: true; the input reads as it did. -/
def fnExactPiecesCellsSpec : ChangeSpec := { name := "fnExactPiecesCells", fn := fun _ => fun
  | [d1, d2, d3] => { results := [.lit (.bool true)], args := [d1, d2, d3] }
  | _ => none }
def fnExactPiecesCellsRow : OpenClaim := { program := "ytohgglhjcklbaaa", sum := "a789d87dd9049df6481e0ec4d5fdaac9ab61c1088da4b91d6fab3730ac4e426f", func := "loop.example/braille/laws.FnExactPiecesCells", spec := "fnExactPiecesCells", apart := false }
def FnExactPiecesCellsSaid : Prop := fnExactPiecesCellsRow.holds Try.pinned (OpenSpec.ofChange fnExactPiecesCellsSpec)

/-- ITS FALSE NEIGHBOUR: 'it returns false'. Refute it at one input. -/
def fnExactPiecesCellsWrong : ChangeSpec := { name := "fnExactPiecesCells", fn := fun _ => fun
  | [d1, d2, d3] => { results := [.lit (.bool false)], args := [d1, d2, d3] }
  | _ => none }
def FnExactPiecesCellsWrongFalsely : Prop := fnExactPiecesCellsRow.holds Try.pinned (OpenSpec.ofChange fnExactPiecesCellsWrong)

/-- 'laws.FnPiecesCells': WHATEVER THE INPUT: true; the input reads as it did. -/
def fnPiecesCellsSpec : ChangeSpec := { name := "fnPiecesCells", fn := fun _ => fun
  | [d] => { results := [.lit (.bool true)], args := [d] }
  | _ => none }
def fnPiecesCellsRow : OpenClaim := { program := "ytohgglhjcklbaaa", sum := "a789d87dd9049df6481e0ec4d5fdaac9ab61c1088da4b91d6fab3730ac4e426f", func := "loop.example/braille/laws.FnPiecesCells", spec := "fnPiecesCells", apart := false }
def FnPiecesCellsSaid : Prop := fnPiecesCellsRow.holds Try.pinned (OpenSpec.ofChange fnPiecesCellsSpec)

/-- ITS FALSE NEIGHBOUR: 'it returns false'. Refute it at one input. -/
def fnPiecesCellsWrong : ChangeSpec := { name := "fnPiecesCells", fn := fun _ => fun
  | [d] => { results := [.lit (.bool false)], args := [d] }
  | _ => none }
def FnPiecesCellsWrongFalsely : Prop := fnPiecesCellsRow.holds Try.pinned (OpenSpec.ofChange fnPiecesCellsWrong)

/-- 'laws.FnExactGreedyPieces': WHATEVER THE INPUT: true; the input reads as it did. -/
def fnExactGreedyPiecesSpec : ChangeSpec := { name := "fnExactGreedyPieces", fn := fun _ => fun
  | [d1, d2] => { results := [.lit (.bool true)], args := [d1, d2] }
  | _ => none }
def fnExactGreedyPiecesRow : OpenClaim := { program := "ytohgglhjcklbaaa", sum := "a789d87dd9049df6481e0ec4d5fdaac9ab61c1088da4b91d6fab3730ac4e426f", func := "loop.example/braille/laws.FnExactGreedyPieces", spec := "fnExactGreedyPieces", apart := false }
def FnExactGreedyPiecesSaid : Prop := fnExactGreedyPiecesRow.holds Try.pinned (OpenSpec.ofChange fnExactGreedyPiecesSpec)

/-- ITS FALSE NEIGHBOUR: 'it returns false'. Refute it at one input. -/
def fnExactGreedyPiecesWrong : ChangeSpec := { name := "fnExactGreedyPieces", fn := fun _ => fun
  | [d1, d2] => { results := [.lit (.bool false)], args := [d1, d2] }
  | _ => none }
def FnExactGreedyPiecesWrongFalsely : Prop := fnExactGreedyPiecesRow.holds Try.pinned (OpenSpec.ofChange fnExactGreedyPiecesWrong)

/- THE SECOND FORM. 'bulk': how many values and letters a reading holds, each counted each time it is reached (what is shared counts as often as it is met; a slice's spare places count too). A statement '..UptoSaid' is the law's where the arguments, and the package variables that the reading takes, are together of bulk at most 1048576: NARROWER than '..Said'. Prove '..Said' where nothing that the law and all that it calls make is longer than what came in: it says more and counts as full. Else prove '..UptoSaid'. A law counts once. -/
mutual
def uptoBulk {H : Type} : DataW H → Nat
  | .lit (.string bytes) => bytes.length + 1
  | .lit _ => 1
  | .nil => 1
  | .ptr d => uptoBulk d + 1
  | .slice elems spare => uptoBulkAll elems + uptoBulkAll spare + 1
  | .agg parts => uptoBulkAll parts + 1
  | .iface _ d => uptoBulk d + 1
  | .map entries => uptoBulkEntries entries + 1
  | .held _ => 1
def uptoBulkAll {H : Type} : List (DataW H) → Nat
  | [] => 0
  | d :: r => uptoBulk d + uptoBulkAll r
def uptoBulkEntries {H : Type} : List (Lit × DataW H) → Nat
  | [] => 0
  | x :: r => uptoBulkEntry x + uptoBulkEntries r
def uptoBulkEntry {H : Type} : Lit × DataW H → Nat
  | (.string bytes, d) => bytes.length + uptoBulk d + 1
  | (_, d) => uptoBulk d + 1
 end
def uptoSmall : (H : Type) → List (DataW H) → Bool := fun _ ds => decide (uptoBulkAll ds ≤ 1048576)
def OpenSpec.upto (s : _root_.Go.ChangeSpec) : _root_.Go.OpenSpec := { _root_.Go.OpenSpec.ofChange s with cond := some uptoSmall }

/-- 'laws.FnExactPlaceFits', WHERE WHAT IT READS IS OF BULK AT MOST 1048576: true; the input reads as it did. -/
def fnExactPlaceFitsUptoRow : OpenClaim := { program := "ytohgglhjcklbaaa", sum := "a789d87dd9049df6481e0ec4d5fdaac9ab61c1088da4b91d6fab3730ac4e426f", func := "loop.example/braille/laws.FnExactPlaceFits", spec := "fnExactPlaceFits", apart := false, narrowed := true }
def FnExactPlaceFitsUptoSaid : Prop := fnExactPlaceFitsUptoRow.holds Try.pinned (OpenSpec.upto fnExactPlaceFitsSpec)

/-- 'laws.FnPlaceFits', WHERE WHAT IT READS IS OF BULK AT MOST 1048576: true; the input reads as it did. -/
def fnPlaceFitsUptoRow : OpenClaim := { program := "ytohgglhjcklbaaa", sum := "a789d87dd9049df6481e0ec4d5fdaac9ab61c1088da4b91d6fab3730ac4e426f", func := "loop.example/braille/laws.FnPlaceFits", spec := "fnPlaceFits", apart := false, narrowed := true }
def FnPlaceFitsUptoSaid : Prop := fnPlaceFitsUptoRow.holds Try.pinned (OpenSpec.upto fnPlaceFitsSpec)

/-- 'laws.FnExactValidTable', WHERE WHAT IT READS IS OF BULK AT MOST 1048576: true; the input reads as it did. -/
def fnExactValidTableUptoRow : OpenClaim := { program := "ytohgglhjcklbaaa", sum := "a789d87dd9049df6481e0ec4d5fdaac9ab61c1088da4b91d6fab3730ac4e426f", func := "loop.example/braille/laws.FnExactValidTable", spec := "fnExactValidTable", apart := false, narrowed := true }
def FnExactValidTableUptoSaid : Prop := fnExactValidTableUptoRow.holds Try.pinned (OpenSpec.upto fnExactValidTableSpec)

/-- 'laws.FnValidTable', WHERE WHAT IT READS IS OF BULK AT MOST 1048576: true; the input reads as it did. -/
def fnValidTableUptoRow : OpenClaim := { program := "ytohgglhjcklbaaa", sum := "a789d87dd9049df6481e0ec4d5fdaac9ab61c1088da4b91d6fab3730ac4e426f", func := "loop.example/braille/laws.FnValidTable", spec := "fnValidTable", apart := false, narrowed := true }
def FnValidTableUptoSaid : Prop := fnValidTableUptoRow.holds Try.pinned (OpenSpec.upto fnValidTableSpec)

/-- 'laws.FnExactRulesAt', WHERE WHAT IT READS IS OF BULK AT MOST 1048576: true; the input reads as it did. -/
def fnExactRulesAtUptoRow : OpenClaim := { program := "ytohgglhjcklbaaa", sum := "a789d87dd9049df6481e0ec4d5fdaac9ab61c1088da4b91d6fab3730ac4e426f", func := "loop.example/braille/laws.FnExactRulesAt", spec := "fnExactRulesAt", apart := false, narrowed := true }
def FnExactRulesAtUptoSaid : Prop := fnExactRulesAtUptoRow.holds Try.pinned (OpenSpec.upto fnExactRulesAtSpec)

/-- 'laws.FnRulesAt', WHERE WHAT IT READS IS OF BULK AT MOST 1048576: true; the input reads as it did. -/
def fnRulesAtUptoRow : OpenClaim := { program := "ytohgglhjcklbaaa", sum := "a789d87dd9049df6481e0ec4d5fdaac9ab61c1088da4b91d6fab3730ac4e426f", func := "loop.example/braille/laws.FnRulesAt", spec := "fnRulesAt", apart := false, narrowed := true }
def FnRulesAtUptoSaid : Prop := fnRulesAtUptoRow.holds Try.pinned (OpenSpec.upto fnRulesAtSpec)

/-- 'laws.FnRulesAtLess', WHERE WHAT IT READS IS OF BULK AT MOST 1048576: true; the input reads as it did. -/
def fnRulesAtLessUptoRow : OpenClaim := { program := "ytohgglhjcklbaaa", sum := "a789d87dd9049df6481e0ec4d5fdaac9ab61c1088da4b91d6fab3730ac4e426f", func := "loop.example/braille/laws.FnRulesAtLess", spec := "fnRulesAtLess", apart := false, narrowed := true }
def FnRulesAtLessUptoSaid : Prop := fnRulesAtLessUptoRow.holds Try.pinned (OpenSpec.upto fnRulesAtLessSpec)

/-- 'laws.FnExactValidPieces', WHERE WHAT IT READS IS OF BULK AT MOST 1048576: true; the input reads as it did. -/
def fnExactValidPiecesUptoRow : OpenClaim := { program := "ytohgglhjcklbaaa", sum := "a789d87dd9049df6481e0ec4d5fdaac9ab61c1088da4b91d6fab3730ac4e426f", func := "loop.example/braille/laws.FnExactValidPieces", spec := "fnExactValidPieces", apart := false, narrowed := true }
def FnExactValidPiecesUptoSaid : Prop := fnExactValidPiecesUptoRow.holds Try.pinned (OpenSpec.upto fnExactValidPiecesSpec)

/-- 'laws.FnValidPieces', WHERE WHAT IT READS IS OF BULK AT MOST 1048576: true; the input reads as it did. -/
def fnValidPiecesUptoRow : OpenClaim := { program := "ytohgglhjcklbaaa", sum := "a789d87dd9049df6481e0ec4d5fdaac9ab61c1088da4b91d6fab3730ac4e426f", func := "loop.example/braille/laws.FnValidPieces", spec := "fnValidPieces", apart := false, narrowed := true }
def FnValidPiecesUptoSaid : Prop := fnValidPiecesUptoRow.holds Try.pinned (OpenSpec.upto fnValidPiecesSpec)

/-- 'laws.FnExactPiecesCells', WHERE WHAT IT READS IS OF BULK AT MOST 1048576: true; the input reads as it did. -/
def fnExactPiecesCellsUptoRow : OpenClaim := { program := "ytohgglhjcklbaaa", sum := "a789d87dd9049df6481e0ec4d5fdaac9ab61c1088da4b91d6fab3730ac4e426f", func := "loop.example/braille/laws.FnExactPiecesCells", spec := "fnExactPiecesCells", apart := false, narrowed := true }
def FnExactPiecesCellsUptoSaid : Prop := fnExactPiecesCellsUptoRow.holds Try.pinned (OpenSpec.upto fnExactPiecesCellsSpec)

/-- 'laws.FnPiecesCells', WHERE WHAT IT READS IS OF BULK AT MOST 1048576: true; the input reads as it did. -/
def fnPiecesCellsUptoRow : OpenClaim := { program := "ytohgglhjcklbaaa", sum := "a789d87dd9049df6481e0ec4d5fdaac9ab61c1088da4b91d6fab3730ac4e426f", func := "loop.example/braille/laws.FnPiecesCells", spec := "fnPiecesCells", apart := false, narrowed := true }
def FnPiecesCellsUptoSaid : Prop := fnPiecesCellsUptoRow.holds Try.pinned (OpenSpec.upto fnPiecesCellsSpec)

/-- 'laws.FnExactGreedyPieces', WHERE WHAT IT READS IS OF BULK AT MOST 1048576: true; the input reads as it did. -/
def fnExactGreedyPiecesUptoRow : OpenClaim := { program := "ytohgglhjcklbaaa", sum := "a789d87dd9049df6481e0ec4d5fdaac9ab61c1088da4b91d6fab3730ac4e426f", func := "loop.example/braille/laws.FnExactGreedyPieces", spec := "fnExactGreedyPieces", apart := false, narrowed := true }
def FnExactGreedyPiecesUptoSaid : Prop := fnExactGreedyPiecesUptoRow.holds Try.pinned (OpenSpec.upto fnExactGreedyPiecesSpec)

end Rows
end Go.Proofs.Ytohgglhjcklbaaa
