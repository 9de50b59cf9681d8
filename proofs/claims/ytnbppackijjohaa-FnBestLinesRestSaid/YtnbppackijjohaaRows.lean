/-
  No cell of these rows narrows 'for every input' (looked for: loops, veiled, ifaces, maps, wideKeys, modest, calm, conditions, laid).
  DERIVED. THE GIVEN ROWS OF THIS SEAT. 12 by the template 'for every input the law returns true; each argument reads behind the call as it read before'; 0 by the template 'total and deterministic' (their statements: YtnbppackijjohaaTotals.lean).
  GIVEN WITH THE SEED: the statements are not yours to turn. If you find one false, say at which input.
  Laid BY PROGRAM, IN A SANDBOX (cutbox-rows.mjs): the forced cells as the released guide's own fill.sh prints them over the translation ec60c0a135298787… (all of the seat's roots in one cut). By AI agents, Wed Nov 11 2026. No macro, syntax, notation, axiom, sorry.
-/
import Derived.Test.YtnbppackijjohaaChecked
import GoSem.Claim
import GoSem.ClaimJoined
import GoSem.ClaimMapViews
import Derived.JoinedTies
import Derived.KernelRfl
namespace Go.Proofs.Ytnbppackijjohaa
/- THE CELL 'sum', in the pinned program and in every row, IS THE sha256 OF THE DUMP (.gsa) THAT YtnbppackijjohaaProg.lean LOADS. Nothing in Lean hashes anything: it is a label: what it is worth is what the hold of that sum in a sandbox is worth. -/
noncomputable def Try.pinned : Pinned := { name := "ytnbppackijjohaa", sum := "ec60c0a1352987876730395f6dfca106aab5fcd987ccef0821cd6f75252de839", checked := Try.checked }
namespace Rows
def none {H : Type} : Left H := { results := [], args := [] }

/-- 'laws.FnFillLines': WHATEVER THE INPUT: true; the input reads as it did. -/
def fnFillLinesSpec : ChangeSpec := { name := "fnFillLines", fn := fun _ => fun
  | [d] => { results := [.lit (.bool true)], args := [d] }
  | _ => none }
def fnFillLinesRow : OpenClaim := { program := "ytnbppackijjohaa", sum := "ec60c0a1352987876730395f6dfca106aab5fcd987ccef0821cd6f75252de839", func := "loop.example/braille/laws.FnFillLines", spec := "fnFillLines", apart := false }
def FnFillLinesSaid : Prop := fnFillLinesRow.holds Try.pinned (OpenSpec.ofChange fnFillLinesSpec)

/-- ITS FALSE NEIGHBOUR: 'it returns false'. Refute it at one input. -/
def fnFillLinesWrong : ChangeSpec := { name := "fnFillLines", fn := fun _ => fun
  | [d] => { results := [.lit (.bool false)], args := [d] }
  | _ => none }
def FnFillLinesWrongFalsely : Prop := fnFillLinesRow.holds Try.pinned (OpenSpec.ofChange fnFillLinesWrong)

/-- 'laws.FnFillLinesFull': WHATEVER THE INPUT: true; the input reads as it did. -/
def fnFillLinesFullSpec : ChangeSpec := { name := "fnFillLinesFull", fn := fun _ => fun
  | [d] => { results := [.lit (.bool true)], args := [d] }
  | _ => none }
def fnFillLinesFullRow : OpenClaim := { program := "ytnbppackijjohaa", sum := "ec60c0a1352987876730395f6dfca106aab5fcd987ccef0821cd6f75252de839", func := "loop.example/braille/laws.FnFillLinesFull", spec := "fnFillLinesFull", apart := false }
def FnFillLinesFullSaid : Prop := fnFillLinesFullRow.holds Try.pinned (OpenSpec.ofChange fnFillLinesFullSpec)

/-- ITS FALSE NEIGHBOUR: 'it returns false'. Refute it at one input. -/
def fnFillLinesFullWrong : ChangeSpec := { name := "fnFillLinesFull", fn := fun _ => fun
  | [d] => { results := [.lit (.bool false)], args := [d] }
  | _ => none }
def FnFillLinesFullWrongFalsely : Prop := fnFillLinesFullRow.holds Try.pinned (OpenSpec.ofChange fnFillLinesFullWrong)

/-- 'laws.FnFillLinesFew': WHATEVER THE INPUT: true; the input reads as it did. -/
def fnFillLinesFewSpec : ChangeSpec := { name := "fnFillLinesFew", fn := fun _ => fun
  | [d] => { results := [.lit (.bool true)], args := [d] }
  | _ => none }
def fnFillLinesFewRow : OpenClaim := { program := "ytnbppackijjohaa", sum := "ec60c0a1352987876730395f6dfca106aab5fcd987ccef0821cd6f75252de839", func := "loop.example/braille/laws.FnFillLinesFew", spec := "fnFillLinesFew", apart := false }
def FnFillLinesFewSaid : Prop := fnFillLinesFewRow.holds Try.pinned (OpenSpec.ofChange fnFillLinesFewSpec)

/-- ITS FALSE NEIGHBOUR: 'it returns false'. Refute it at one input. -/
def fnFillLinesFewWrong : ChangeSpec := { name := "fnFillLinesFew", fn := fun _ => fun
  | [d] => { results := [.lit (.bool false)], args := [d] }
  | _ => none }
def FnFillLinesFewWrongFalsely : Prop := fnFillLinesFewRow.holds Try.pinned (OpenSpec.ofChange fnFillLinesFewWrong)

/-- 'laws.FnLineCost': WHATEVER THE INPUT: true; the input reads as it did. -/
def fnLineCostSpec : ChangeSpec := { name := "fnLineCost", fn := fun _ => fun
  | [d] => { results := [.lit (.bool true)], args := [d] }
  | _ => none }
def fnLineCostRow : OpenClaim := { program := "ytnbppackijjohaa", sum := "ec60c0a1352987876730395f6dfca106aab5fcd987ccef0821cd6f75252de839", func := "loop.example/braille/laws.FnLineCost", spec := "fnLineCost", apart := false }
def FnLineCostSaid : Prop := fnLineCostRow.holds Try.pinned (OpenSpec.ofChange fnLineCostSpec)

/-- ITS FALSE NEIGHBOUR: 'it returns false'. Refute it at one input. -/
def fnLineCostWrong : ChangeSpec := { name := "fnLineCost", fn := fun _ => fun
  | [d] => { results := [.lit (.bool false)], args := [d] }
  | _ => none }
def FnLineCostWrongFalsely : Prop := fnLineCostRow.holds Try.pinned (OpenSpec.ofChange fnLineCostWrong)

/-- 'laws.FnBestLines': WHATEVER THE INPUT: true; the input reads as it did. -/
def fnBestLinesSpec : ChangeSpec := { name := "fnBestLines", fn := fun _ => fun
  | [d] => { results := [.lit (.bool true)], args := [d] }
  | _ => none }
def fnBestLinesRow : OpenClaim := { program := "ytnbppackijjohaa", sum := "ec60c0a1352987876730395f6dfca106aab5fcd987ccef0821cd6f75252de839", func := "loop.example/braille/laws.FnBestLines", spec := "fnBestLines", apart := false }
def FnBestLinesSaid : Prop := fnBestLinesRow.holds Try.pinned (OpenSpec.ofChange fnBestLinesSpec)

/-- ITS FALSE NEIGHBOUR: 'it returns false'. Refute it at one input. -/
def fnBestLinesWrong : ChangeSpec := { name := "fnBestLines", fn := fun _ => fun
  | [d] => { results := [.lit (.bool false)], args := [d] }
  | _ => none }
def FnBestLinesWrongFalsely : Prop := fnBestLinesRow.holds Try.pinned (OpenSpec.ofChange fnBestLinesWrong)

/-- 'laws.FnBestLinesRest': WHATEVER THE INPUT: true; the input reads as it did. -/
def fnBestLinesRestSpec : ChangeSpec := { name := "fnBestLinesRest", fn := fun _ => fun
  | [d] => { results := [.lit (.bool true)], args := [d] }
  | _ => none }
def fnBestLinesRestRow : OpenClaim := { program := "ytnbppackijjohaa", sum := "ec60c0a1352987876730395f6dfca106aab5fcd987ccef0821cd6f75252de839", func := "loop.example/braille/laws.FnBestLinesRest", spec := "fnBestLinesRest", apart := false }
def FnBestLinesRestSaid : Prop := fnBestLinesRestRow.holds Try.pinned (OpenSpec.ofChange fnBestLinesRestSpec)

/-- ITS FALSE NEIGHBOUR: 'it returns false'. Refute it at one input. -/
def fnBestLinesRestWrong : ChangeSpec := { name := "fnBestLinesRest", fn := fun _ => fun
  | [d] => { results := [.lit (.bool false)], args := [d] }
  | _ => none }
def FnBestLinesRestWrongFalsely : Prop := fnBestLinesRestRow.holds Try.pinned (OpenSpec.ofChange fnBestLinesRestWrong)

/-- 'laws.FnWordsOfLines': WHATEVER THE INPUT: true; the input reads as it did. -/
def fnWordsOfLinesSpec : ChangeSpec := { name := "fnWordsOfLines", fn := fun _ => fun
  | [d] => { results := [.lit (.bool true)], args := [d] }
  | _ => none }
def fnWordsOfLinesRow : OpenClaim := { program := "ytnbppackijjohaa", sum := "ec60c0a1352987876730395f6dfca106aab5fcd987ccef0821cd6f75252de839", func := "loop.example/braille/laws.FnWordsOfLines", spec := "fnWordsOfLines", apart := false }
def FnWordsOfLinesSaid : Prop := fnWordsOfLinesRow.holds Try.pinned (OpenSpec.ofChange fnWordsOfLinesSpec)

/-- ITS FALSE NEIGHBOUR: 'it returns false'. Refute it at one input. -/
def fnWordsOfLinesWrong : ChangeSpec := { name := "fnWordsOfLines", fn := fun _ => fun
  | [d] => { results := [.lit (.bool false)], args := [d] }
  | _ => none }
def FnWordsOfLinesWrongFalsely : Prop := fnWordsOfLinesRow.holds Try.pinned (OpenSpec.ofChange fnWordsOfLinesWrong)

/-- 'laws.FnFillLinesOne': WHATEVER THE INPUT: true; the input reads as it did. -/
def fnFillLinesOneSpec : ChangeSpec := { name := "fnFillLinesOne", fn := fun _ => fun
  | [d] => { results := [.lit (.bool true)], args := [d] }
  | _ => none }
def fnFillLinesOneRow : OpenClaim := { program := "ytnbppackijjohaa", sum := "ec60c0a1352987876730395f6dfca106aab5fcd987ccef0821cd6f75252de839", func := "loop.example/braille/laws.FnFillLinesOne", spec := "fnFillLinesOne", apart := false }
def FnFillLinesOneSaid : Prop := fnFillLinesOneRow.holds Try.pinned (OpenSpec.ofChange fnFillLinesOneSpec)

/-- ITS FALSE NEIGHBOUR: 'it returns false'. Refute it at one input. -/
def fnFillLinesOneWrong : ChangeSpec := { name := "fnFillLinesOne", fn := fun _ => fun
  | [d] => { results := [.lit (.bool false)], args := [d] }
  | _ => none }
def FnFillLinesOneWrongFalsely : Prop := fnFillLinesOneRow.holds Try.pinned (OpenSpec.ofChange fnFillLinesOneWrong)

/-- 'laws.FnExactFillLines': WHATEVER THE INPUT: true; the input reads as it did. -/
def fnExactFillLinesSpec : ChangeSpec := { name := "fnExactFillLines", fn := fun _ => fun
  | [d1, d2] => { results := [.lit (.bool true)], args := [d1, d2] }
  | _ => none }
def fnExactFillLinesRow : OpenClaim := { program := "ytnbppackijjohaa", sum := "ec60c0a1352987876730395f6dfca106aab5fcd987ccef0821cd6f75252de839", func := "loop.example/braille/laws.FnExactFillLines", spec := "fnExactFillLines", apart := false }
def FnExactFillLinesSaid : Prop := fnExactFillLinesRow.holds Try.pinned (OpenSpec.ofChange fnExactFillLinesSpec)

/-- ITS FALSE NEIGHBOUR: 'it returns false'. Refute it at one input. -/
def fnExactFillLinesWrong : ChangeSpec := { name := "fnExactFillLines", fn := fun _ => fun
  | [d1, d2] => { results := [.lit (.bool false)], args := [d1, d2] }
  | _ => none }
def FnExactFillLinesWrongFalsely : Prop := fnExactFillLinesRow.holds Try.pinned (OpenSpec.ofChange fnExactFillLinesWrong)

/-- 'laws.FnExactLineCost': WHATEVER THE INPUT: true; the input reads as it did. -/
def fnExactLineCostSpec : ChangeSpec := { name := "fnExactLineCost", fn := fun _ => fun
  | [d1, d2] => { results := [.lit (.bool true)], args := [d1, d2] }
  | _ => none }
def fnExactLineCostRow : OpenClaim := { program := "ytnbppackijjohaa", sum := "ec60c0a1352987876730395f6dfca106aab5fcd987ccef0821cd6f75252de839", func := "loop.example/braille/laws.FnExactLineCost", spec := "fnExactLineCost", apart := false }
def FnExactLineCostSaid : Prop := fnExactLineCostRow.holds Try.pinned (OpenSpec.ofChange fnExactLineCostSpec)

/-- ITS FALSE NEIGHBOUR: 'it returns false'. Refute it at one input. -/
def fnExactLineCostWrong : ChangeSpec := { name := "fnExactLineCost", fn := fun _ => fun
  | [d1, d2] => { results := [.lit (.bool false)], args := [d1, d2] }
  | _ => none }
def FnExactLineCostWrongFalsely : Prop := fnExactLineCostRow.holds Try.pinned (OpenSpec.ofChange fnExactLineCostWrong)

/-- 'laws.FnExactBestLines': WHATEVER THE INPUT: true; the input reads as it did. -/
def fnExactBestLinesSpec : ChangeSpec := { name := "fnExactBestLines", fn := fun _ => fun
  | [d1, d2] => { results := [.lit (.bool true)], args := [d1, d2] }
  | _ => none }
def fnExactBestLinesRow : OpenClaim := { program := "ytnbppackijjohaa", sum := "ec60c0a1352987876730395f6dfca106aab5fcd987ccef0821cd6f75252de839", func := "loop.example/braille/laws.FnExactBestLines", spec := "fnExactBestLines", apart := false }
def FnExactBestLinesSaid : Prop := fnExactBestLinesRow.holds Try.pinned (OpenSpec.ofChange fnExactBestLinesSpec)

/-- ITS FALSE NEIGHBOUR: 'it returns false'. Refute it at one input. -/
def fnExactBestLinesWrong : ChangeSpec := { name := "fnExactBestLines", fn := fun _ => fun
  | [d1, d2] => { results := [.lit (.bool false)], args := [d1, d2] }
  | _ => none }
def FnExactBestLinesWrongFalsely : Prop := fnExactBestLinesRow.holds Try.pinned (OpenSpec.ofChange fnExactBestLinesWrong)

/-- 'laws.FnExactWordsOfLines': WHATEVER THE INPUT: true; the input reads as it did. -/
def fnExactWordsOfLinesSpec : ChangeSpec := { name := "fnExactWordsOfLines", fn := fun _ => fun
  | [d1, d2] => { results := [.lit (.bool true)], args := [d1, d2] }
  | _ => none }
def fnExactWordsOfLinesRow : OpenClaim := { program := "ytnbppackijjohaa", sum := "ec60c0a1352987876730395f6dfca106aab5fcd987ccef0821cd6f75252de839", func := "loop.example/braille/laws.FnExactWordsOfLines", spec := "fnExactWordsOfLines", apart := false }
def FnExactWordsOfLinesSaid : Prop := fnExactWordsOfLinesRow.holds Try.pinned (OpenSpec.ofChange fnExactWordsOfLinesSpec)

/-- ITS FALSE NEIGHBOUR: 'it returns false'. Refute it at one input. -/
def fnExactWordsOfLinesWrong : ChangeSpec := { name := "fnExactWordsOfLines", fn := fun _ => fun
  | [d1, d2] => { results := [.lit (.bool false)], args := [d1, d2] }
  | _ => none }
def FnExactWordsOfLinesWrongFalsely : Prop := fnExactWordsOfLinesRow.holds Try.pinned (OpenSpec.ofChange fnExactWordsOfLinesWrong)

/- THE SECOND FORM. 'bulk': how many values and letters a reading holds, each counted each time it is reached (what is shared counts as often as it is met; a slice's spare places count too). A statement '..UptoSaid' is the law's where the arguments, and the package variables that the reading takes, are together of bulk at most 1048576: NARROWER than '..Said'. Prove '..Said' where nothing that the law and all that it calls make is longer than what came in: it says more and counts as full. Else prove '..UptoSaid'. A law counts once. -/
mutual
def uptoBulk {H : Type} : DataW H → Nat
  | .lit (.string bytes) => bytes.length + 1
  | .lit _ => 1
  | .nil => 1
  | .ptr d => uptoBulk d + 1
  | .slice elems spare => uptoBulkAll elems + uptoBulkAll spare + 1
  | .agg parts => uptoBulkAll parts + 1
  | .iface _ d => uptoBulk d + 1
  | .map entries => uptoBulkEntries entries + 1
  | .held _ => 1
def uptoBulkAll {H : Type} : List (DataW H) → Nat
  | [] => 0
  | d :: r => uptoBulk d + uptoBulkAll r
def uptoBulkEntries {H : Type} : List (Lit × DataW H) → Nat
  | [] => 0
  | x :: r => uptoBulkEntry x + uptoBulkEntries r
def uptoBulkEntry {H : Type} : Lit × DataW H → Nat
  | (.string bytes, d) => bytes.length + uptoBulk d + 1
  | (_, d) => uptoBulk d + 1
 end
def uptoSmall : (H : Type) → List (DataW H) → Bool := fun _ ds => decide (uptoBulkAll ds ≤ 1048576)
def OpenSpec.upto (s : _root_.Go.ChangeSpec) : _root_.Go.OpenSpec := { _root_.Go.OpenSpec.ofChange s with cond := some uptoSmall }

/-- 'laws.FnFillLines', WHERE WHAT IT READS IS OF BULK AT MOST 1048576: true; the input reads as it did. -/
def fnFillLinesUptoRow : OpenClaim := { program := "ytnbppackijjohaa", sum := "ec60c0a1352987876730395f6dfca106aab5fcd987ccef0821cd6f75252de839", func := "loop.example/braille/laws.FnFillLines", spec := "fnFillLines", apart := false, narrowed := true }
def FnFillLinesUptoSaid : Prop := fnFillLinesUptoRow.holds Try.pinned (OpenSpec.upto fnFillLinesSpec)

/-- 'laws.FnFillLinesFull', WHERE WHAT IT READS IS OF BULK AT MOST 1048576: true; the input reads as it did. -/
def fnFillLinesFullUptoRow : OpenClaim := { program := "ytnbppackijjohaa", sum := "ec60c0a1352987876730395f6dfca106aab5fcd987ccef0821cd6f75252de839", func := "loop.example/braille/laws.FnFillLinesFull", spec := "fnFillLinesFull", apart := false, narrowed := true }
def FnFillLinesFullUptoSaid : Prop := fnFillLinesFullUptoRow.holds Try.pinned (OpenSpec.upto fnFillLinesFullSpec)

/-- 'laws.FnFillLinesFew', WHERE WHAT IT READS IS OF BULK AT MOST 1048576: true; the input reads as it did. -/
def fnFillLinesFewUptoRow : OpenClaim := { program := "ytnbppackijjohaa", sum := "ec60c0a1352987876730395f6dfca106aab5fcd987ccef0821cd6f75252de839", func := "loop.example/braille/laws.FnFillLinesFew", spec := "fnFillLinesFew", apart := false, narrowed := true }
def FnFillLinesFewUptoSaid : Prop := fnFillLinesFewUptoRow.holds Try.pinned (OpenSpec.upto fnFillLinesFewSpec)

/-- 'laws.FnLineCost', WHERE WHAT IT READS IS OF BULK AT MOST 1048576: true; the input reads as it did. -/
def fnLineCostUptoRow : OpenClaim := { program := "ytnbppackijjohaa", sum := "ec60c0a1352987876730395f6dfca106aab5fcd987ccef0821cd6f75252de839", func := "loop.example/braille/laws.FnLineCost", spec := "fnLineCost", apart := false, narrowed := true }
def FnLineCostUptoSaid : Prop := fnLineCostUptoRow.holds Try.pinned (OpenSpec.upto fnLineCostSpec)

/-- 'laws.FnBestLines', WHERE WHAT IT READS IS OF BULK AT MOST 1048576: true; the input reads as it did. -/
def fnBestLinesUptoRow : OpenClaim := { program := "ytnbppackijjohaa", sum := "ec60c0a1352987876730395f6dfca106aab5fcd987ccef0821cd6f75252de839", func := "loop.example/braille/laws.FnBestLines", spec := "fnBestLines", apart := false, narrowed := true }
def FnBestLinesUptoSaid : Prop := fnBestLinesUptoRow.holds Try.pinned (OpenSpec.upto fnBestLinesSpec)

/-- 'laws.FnBestLinesRest', WHERE WHAT IT READS IS OF BULK AT MOST 1048576: true; the input reads as it did. -/
def fnBestLinesRestUptoRow : OpenClaim := { program := "ytnbppackijjohaa", sum := "ec60c0a1352987876730395f6dfca106aab5fcd987ccef0821cd6f75252de839", func := "loop.example/braille/laws.FnBestLinesRest", spec := "fnBestLinesRest", apart := false, narrowed := true }
def FnBestLinesRestUptoSaid : Prop := fnBestLinesRestUptoRow.holds Try.pinned (OpenSpec.upto fnBestLinesRestSpec)

/-- 'laws.FnWordsOfLines', WHERE WHAT IT READS IS OF BULK AT MOST 1048576: true; the input reads as it did. -/
def fnWordsOfLinesUptoRow : OpenClaim := { program := "ytnbppackijjohaa", sum := "ec60c0a1352987876730395f6dfca106aab5fcd987ccef0821cd6f75252de839", func := "loop.example/braille/laws.FnWordsOfLines", spec := "fnWordsOfLines", apart := false, narrowed := true }
def FnWordsOfLinesUptoSaid : Prop := fnWordsOfLinesUptoRow.holds Try.pinned (OpenSpec.upto fnWordsOfLinesSpec)

/-- 'laws.FnFillLinesOne', WHERE WHAT IT READS IS OF BULK AT MOST 1048576: true; the input reads as it did. -/
def fnFillLinesOneUptoRow : OpenClaim := { program := "ytnbppackijjohaa", sum := "ec60c0a1352987876730395f6dfca106aab5fcd987ccef0821cd6f75252de839", func := "loop.example/braille/laws.FnFillLinesOne", spec := "fnFillLinesOne", apart := false, narrowed := true }
def FnFillLinesOneUptoSaid : Prop := fnFillLinesOneUptoRow.holds Try.pinned (OpenSpec.upto fnFillLinesOneSpec)

/-- 'laws.FnExactFillLines', WHERE WHAT IT READS IS OF BULK AT MOST 1048576: true; the input reads as it did. -/
def fnExactFillLinesUptoRow : OpenClaim := { program := "ytnbppackijjohaa", sum := "ec60c0a1352987876730395f6dfca106aab5fcd987ccef0821cd6f75252de839", func := "loop.example/braille/laws.FnExactFillLines", spec := "fnExactFillLines", apart := false, narrowed := true }
def FnExactFillLinesUptoSaid : Prop := fnExactFillLinesUptoRow.holds Try.pinned (OpenSpec.upto fnExactFillLinesSpec)

/-- 'laws.FnExactLineCost', WHERE WHAT IT READS IS OF BULK AT MOST 1048576: true; the input reads as it did. -/
def fnExactLineCostUptoRow : OpenClaim := { program := "ytnbppackijjohaa", sum := "ec60c0a1352987876730395f6dfca106aab5fcd987ccef0821cd6f75252de839", func := "loop.example/braille/laws.FnExactLineCost", spec := "fnExactLineCost", apart := false, narrowed := true }
def FnExactLineCostUptoSaid : Prop := fnExactLineCostUptoRow.holds Try.pinned (OpenSpec.upto fnExactLineCostSpec)

/-- 'laws.FnExactBestLines', WHERE WHAT IT READS IS OF BULK AT MOST 1048576: true; the input reads as it did. -/
def fnExactBestLinesUptoRow : OpenClaim := { program := "ytnbppackijjohaa", sum := "ec60c0a1352987876730395f6dfca106aab5fcd987ccef0821cd6f75252de839", func := "loop.example/braille/laws.FnExactBestLines", spec := "fnExactBestLines", apart := false, narrowed := true }
def FnExactBestLinesUptoSaid : Prop := fnExactBestLinesUptoRow.holds Try.pinned (OpenSpec.upto fnExactBestLinesSpec)

/-- 'laws.FnExactWordsOfLines', WHERE WHAT IT READS IS OF BULK AT MOST 1048576: true; the input reads as it did. -/
def fnExactWordsOfLinesUptoRow : OpenClaim := { program := "ytnbppackijjohaa", sum := "ec60c0a1352987876730395f6dfca106aab5fcd987ccef0821cd6f75252de839", func := "loop.example/braille/laws.FnExactWordsOfLines", spec := "fnExactWordsOfLines", apart := false, narrowed := true }
def FnExactWordsOfLinesUptoSaid : Prop := fnExactWordsOfLinesUptoRow.holds Try.pinned (OpenSpec.upto fnExactWordsOfLinesSpec)

end Rows
end Go.Proofs.Ytnbppackijjohaa
