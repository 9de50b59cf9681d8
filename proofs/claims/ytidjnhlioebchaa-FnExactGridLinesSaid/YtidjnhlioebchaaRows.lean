/-
  No cell of these rows narrows 'for every input' (looked for: loops, veiled, ifaces, maps, wideKeys, modest, calm, conditions, laid).
  DERIVED. THE GIVEN ROWS OF THIS SEAT. 11 by the template 'for every input the law returns true; each argument reads behind the call as it read before'; 0 by the template 'total and deterministic' (their statements: YtidjnhlioebchaaTotals.lean).
  GIVEN WITH THE SEED: the statements are not yours to turn. If you find one false, say at which input.
  Laid BY PROGRAM, IN A SANDBOX (cutbox-rows.mjs): the forced cells as the released guide's own fill.sh prints them over the translation d3d4cdd86c06a597… (all of the seat's roots in one cut). By AI agents, Wed Nov 11 2026. No macro, syntax, notation, axiom, sorry.
-/
import Derived.Test.YtidjnhlioebchaaChecked
import GoSem.Claim
import GoSem.ClaimJoined
import GoSem.ClaimMapViews
import Derived.JoinedTies
import Derived.KernelRfl
namespace Go.Proofs.Ytidjnhlioebchaa
/- THE CELL 'sum', in the pinned program and in every row, IS THE sha256 OF THE DUMP (.gsa) THAT YtidjnhlioebchaaProg.lean LOADS. Nothing in Lean hashes anything: it is a label: what it is worth is what the hold of that sum in a sandbox is worth. -/
noncomputable def Try.pinned : Pinned := { name := "ytidjnhlioebchaa", sum := "d3d4cdd86c06a5977fb95f39b77586b20433b555e4ab733d9185caf7a912ed30", checked := Try.checked }
namespace Rows
def none {H : Type} : Left H := { results := [], args := [] }

/-- 'laws.FnValidGrid': WHATEVER THE INPUT: true; the input reads as it did. -/
def fnValidGridSpec : ChangeSpec := { name := "fnValidGrid", fn := fun _ => fun
  | [d] => { results := [.lit (.bool true)], args := [d] }
  | _ => none }
def fnValidGridRow : OpenClaim := { program := "ytidjnhlioebchaa", sum := "d3d4cdd86c06a5977fb95f39b77586b20433b555e4ab733d9185caf7a912ed30", func := "loop.example/braille/laws.FnValidGrid", spec := "fnValidGrid", apart := false }
def FnValidGridSaid : Prop := fnValidGridRow.holds Try.pinned (OpenSpec.ofChange fnValidGridSpec)

/-- ITS FALSE NEIGHBOUR: 'it returns false'. Refute it at one input. -/
def fnValidGridWrong : ChangeSpec := { name := "fnValidGrid", fn := fun _ => fun
  | [d] => { results := [.lit (.bool false)], args := [d] }
  | _ => none }
def FnValidGridWrongFalsely : Prop := fnValidGridRow.holds Try.pinned (OpenSpec.ofChange fnValidGridWrong)

/-- 'laws.FnColumnWidths': WHATEVER THE INPUT: true; the input reads as it did. -/
def fnColumnWidthsSpec : ChangeSpec := { name := "fnColumnWidths", fn := fun _ => fun
  | [d] => { results := [.lit (.bool true)], args := [d] }
  | _ => none }
def fnColumnWidthsRow : OpenClaim := { program := "ytidjnhlioebchaa", sum := "d3d4cdd86c06a5977fb95f39b77586b20433b555e4ab733d9185caf7a912ed30", func := "loop.example/braille/laws.FnColumnWidths", spec := "fnColumnWidths", apart := false }
def FnColumnWidthsSaid : Prop := fnColumnWidthsRow.holds Try.pinned (OpenSpec.ofChange fnColumnWidthsSpec)

/-- ITS FALSE NEIGHBOUR: 'it returns false'. Refute it at one input. -/
def fnColumnWidthsWrong : ChangeSpec := { name := "fnColumnWidths", fn := fun _ => fun
  | [d] => { results := [.lit (.bool false)], args := [d] }
  | _ => none }
def FnColumnWidthsWrongFalsely : Prop := fnColumnWidthsRow.holds Try.pinned (OpenSpec.ofChange fnColumnWidthsWrong)

/-- 'laws.FnGridLines': WHATEVER THE INPUT: true; the input reads as it did. -/
def fnGridLinesSpec : ChangeSpec := { name := "fnGridLines", fn := fun _ => fun
  | [d] => { results := [.lit (.bool true)], args := [d] }
  | _ => none }
def fnGridLinesRow : OpenClaim := { program := "ytidjnhlioebchaa", sum := "d3d4cdd86c06a5977fb95f39b77586b20433b555e4ab733d9185caf7a912ed30", func := "loop.example/braille/laws.FnGridLines", spec := "fnGridLines", apart := false }
def FnGridLinesSaid : Prop := fnGridLinesRow.holds Try.pinned (OpenSpec.ofChange fnGridLinesSpec)

/-- ITS FALSE NEIGHBOUR: 'it returns false'. Refute it at one input. -/
def fnGridLinesWrong : ChangeSpec := { name := "fnGridLines", fn := fun _ => fun
  | [d] => { results := [.lit (.bool false)], args := [d] }
  | _ => none }
def FnGridLinesWrongFalsely : Prop := fnGridLinesRow.holds Try.pinned (OpenSpec.ofChange fnGridLinesWrong)

/-- 'laws.FnGridLinesEven': WHATEVER THE INPUT: true; the input reads as it did. -/
def fnGridLinesEvenSpec : ChangeSpec := { name := "fnGridLinesEven", fn := fun _ => fun
  | [d] => { results := [.lit (.bool true)], args := [d] }
  | _ => none }
def fnGridLinesEvenRow : OpenClaim := { program := "ytidjnhlioebchaa", sum := "d3d4cdd86c06a5977fb95f39b77586b20433b555e4ab733d9185caf7a912ed30", func := "loop.example/braille/laws.FnGridLinesEven", spec := "fnGridLinesEven", apart := false }
def FnGridLinesEvenSaid : Prop := fnGridLinesEvenRow.holds Try.pinned (OpenSpec.ofChange fnGridLinesEvenSpec)

/-- ITS FALSE NEIGHBOUR: 'it returns false'. Refute it at one input. -/
def fnGridLinesEvenWrong : ChangeSpec := { name := "fnGridLinesEven", fn := fun _ => fun
  | [d] => { results := [.lit (.bool false)], args := [d] }
  | _ => none }
def FnGridLinesEvenWrongFalsely : Prop := fnGridLinesEvenRow.holds Try.pinned (OpenSpec.ofChange fnGridLinesEvenWrong)

/-- 'laws.FnGridLinesBack': WHATEVER THE INPUT: true; the input reads as it did. -/
def fnGridLinesBackSpec : ChangeSpec := { name := "fnGridLinesBack", fn := fun _ => fun
  | [d] => { results := [.lit (.bool true)], args := [d] }
  | _ => none }
def fnGridLinesBackRow : OpenClaim := { program := "ytidjnhlioebchaa", sum := "d3d4cdd86c06a5977fb95f39b77586b20433b555e4ab733d9185caf7a912ed30", func := "loop.example/braille/laws.FnGridLinesBack", spec := "fnGridLinesBack", apart := false }
def FnGridLinesBackSaid : Prop := fnGridLinesBackRow.holds Try.pinned (OpenSpec.ofChange fnGridLinesBackSpec)

/-- ITS FALSE NEIGHBOUR: 'it returns false'. Refute it at one input. -/
def fnGridLinesBackWrong : ChangeSpec := { name := "fnGridLinesBack", fn := fun _ => fun
  | [d] => { results := [.lit (.bool false)], args := [d] }
  | _ => none }
def FnGridLinesBackWrongFalsely : Prop := fnGridLinesBackRow.holds Try.pinned (OpenSpec.ofChange fnGridLinesBackWrong)

/-- 'laws.FnReadGrid': WHATEVER THE INPUT: true; the input reads as it did. -/
def fnReadGridSpec : ChangeSpec := { name := "fnReadGrid", fn := fun _ => fun
  | [d] => { results := [.lit (.bool true)], args := [d] }
  | _ => none }
def fnReadGridRow : OpenClaim := { program := "ytidjnhlioebchaa", sum := "d3d4cdd86c06a5977fb95f39b77586b20433b555e4ab733d9185caf7a912ed30", func := "loop.example/braille/laws.FnReadGrid", spec := "fnReadGrid", apart := false }
def FnReadGridSaid : Prop := fnReadGridRow.holds Try.pinned (OpenSpec.ofChange fnReadGridSpec)

/-- ITS FALSE NEIGHBOUR: 'it returns false'. Refute it at one input. -/
def fnReadGridWrong : ChangeSpec := { name := "fnReadGrid", fn := fun _ => fun
  | [d] => { results := [.lit (.bool false)], args := [d] }
  | _ => none }
def FnReadGridWrongFalsely : Prop := fnReadGridRow.holds Try.pinned (OpenSpec.ofChange fnReadGridWrong)

/-- 'laws.FnGridLinesEntry': WHATEVER THE INPUT: true; the input reads as it did. -/
def fnGridLinesEntrySpec : ChangeSpec := { name := "fnGridLinesEntry", fn := fun _ => fun
  | [d] => { results := [.lit (.bool true)], args := [d] }
  | _ => none }
def fnGridLinesEntryRow : OpenClaim := { program := "ytidjnhlioebchaa", sum := "d3d4cdd86c06a5977fb95f39b77586b20433b555e4ab733d9185caf7a912ed30", func := "loop.example/braille/laws.FnGridLinesEntry", spec := "fnGridLinesEntry", apart := false }
def FnGridLinesEntrySaid : Prop := fnGridLinesEntryRow.holds Try.pinned (OpenSpec.ofChange fnGridLinesEntrySpec)

/-- ITS FALSE NEIGHBOUR: 'it returns false'. Refute it at one input. -/
def fnGridLinesEntryWrong : ChangeSpec := { name := "fnGridLinesEntry", fn := fun _ => fun
  | [d] => { results := [.lit (.bool false)], args := [d] }
  | _ => none }
def FnGridLinesEntryWrongFalsely : Prop := fnGridLinesEntryRow.holds Try.pinned (OpenSpec.ofChange fnGridLinesEntryWrong)

/-- 'laws.FnExactValidGrid': WHATEVER THE INPUT: true; the input reads as it did. -/
def fnExactValidGridSpec : ChangeSpec := { name := "fnExactValidGrid", fn := fun _ => fun
  | [d] => { results := [.lit (.bool true)], args := [d] }
  | _ => none }
def fnExactValidGridRow : OpenClaim := { program := "ytidjnhlioebchaa", sum := "d3d4cdd86c06a5977fb95f39b77586b20433b555e4ab733d9185caf7a912ed30", func := "loop.example/braille/laws.FnExactValidGrid", spec := "fnExactValidGrid", apart := false }
def FnExactValidGridSaid : Prop := fnExactValidGridRow.holds Try.pinned (OpenSpec.ofChange fnExactValidGridSpec)

/-- ITS FALSE NEIGHBOUR: 'it returns false'. Refute it at one input. -/
def fnExactValidGridWrong : ChangeSpec := { name := "fnExactValidGrid", fn := fun _ => fun
  | [d] => { results := [.lit (.bool false)], args := [d] }
  | _ => none }
def FnExactValidGridWrongFalsely : Prop := fnExactValidGridRow.holds Try.pinned (OpenSpec.ofChange fnExactValidGridWrong)

/-- 'laws.FnExactColumnWidths': WHATEVER THE INPUT: true; the input reads as it did. -/
def fnExactColumnWidthsSpec : ChangeSpec := { name := "fnExactColumnWidths", fn := fun _ => fun
  | [d] => { results := [.lit (.bool true)], args := [d] }
  | _ => none }
def fnExactColumnWidthsRow : OpenClaim := { program := "ytidjnhlioebchaa", sum := "d3d4cdd86c06a5977fb95f39b77586b20433b555e4ab733d9185caf7a912ed30", func := "loop.example/braille/laws.FnExactColumnWidths", spec := "fnExactColumnWidths", apart := false }
def FnExactColumnWidthsSaid : Prop := fnExactColumnWidthsRow.holds Try.pinned (OpenSpec.ofChange fnExactColumnWidthsSpec)

/-- ITS FALSE NEIGHBOUR: 'it returns false'. Refute it at one input. -/
def fnExactColumnWidthsWrong : ChangeSpec := { name := "fnExactColumnWidths", fn := fun _ => fun
  | [d] => { results := [.lit (.bool false)], args := [d] }
  | _ => none }
def FnExactColumnWidthsWrongFalsely : Prop := fnExactColumnWidthsRow.holds Try.pinned (OpenSpec.ofChange fnExactColumnWidthsWrong)

/-- 'laws.FnExactGridLines': WHATEVER THE INPUT: true; the input reads as it did. -/
def fnExactGridLinesSpec : ChangeSpec := { name := "fnExactGridLines", fn := fun _ => fun
  | [d] => { results := [.lit (.bool true)], args := [d] }
  | _ => none }
def fnExactGridLinesRow : OpenClaim := { program := "ytidjnhlioebchaa", sum := "d3d4cdd86c06a5977fb95f39b77586b20433b555e4ab733d9185caf7a912ed30", func := "loop.example/braille/laws.FnExactGridLines", spec := "fnExactGridLines", apart := false }
def FnExactGridLinesSaid : Prop := fnExactGridLinesRow.holds Try.pinned (OpenSpec.ofChange fnExactGridLinesSpec)

/-- ITS FALSE NEIGHBOUR: 'it returns false'. Refute it at one input. -/
def fnExactGridLinesWrong : ChangeSpec := { name := "fnExactGridLines", fn := fun _ => fun
  | [d] => { results := [.lit (.bool false)], args := [d] }
  | _ => none }
def FnExactGridLinesWrongFalsely : Prop := fnExactGridLinesRow.holds Try.pinned (OpenSpec.ofChange fnExactGridLinesWrong)

/-- 'laws.FnExactReadGrid': WHATEVER THE INPUT: true; the input reads as it did. -/
def fnExactReadGridSpec : ChangeSpec := { name := "fnExactReadGrid", fn := fun _ => fun
  | [d1, d2] => { results := [.lit (.bool true)], args := [d1, d2] }
  | _ => none }
def fnExactReadGridRow : OpenClaim := { program := "ytidjnhlioebchaa", sum := "d3d4cdd86c06a5977fb95f39b77586b20433b555e4ab733d9185caf7a912ed30", func := "loop.example/braille/laws.FnExactReadGrid", spec := "fnExactReadGrid", apart := false }
def FnExactReadGridSaid : Prop := fnExactReadGridRow.holds Try.pinned (OpenSpec.ofChange fnExactReadGridSpec)

/-- ITS FALSE NEIGHBOUR: 'it returns false'. Refute it at one input. -/
def fnExactReadGridWrong : ChangeSpec := { name := "fnExactReadGrid", fn := fun _ => fun
  | [d1, d2] => { results := [.lit (.bool false)], args := [d1, d2] }
  | _ => none }
def FnExactReadGridWrongFalsely : Prop := fnExactReadGridRow.holds Try.pinned (OpenSpec.ofChange fnExactReadGridWrong)

/- THE SECOND FORM. 'bulk': how many values and letters a reading holds, each counted each time it is reached (what is shared counts as often as it is met; a slice's spare places count too). A statement '..UptoSaid' is the law's where the arguments, and the package variables that the reading takes, are together of bulk at most 1048576: NARROWER than '..Said'. Prove '..Said' where nothing that the law and all that it calls make is longer than what came in: it says more and counts as full. Else prove '..UptoSaid'. A law counts once. -/
mutual
def uptoBulk {H : Type} : DataW H → Nat
  | .lit (.string bytes) => bytes.length + 1
  | .lit _ => 1
  | .nil => 1
  | .ptr d => uptoBulk d + 1
  | .slice elems spare => uptoBulkAll elems + uptoBulkAll spare + 1
  | .agg parts => uptoBulkAll parts + 1
  | .iface _ d => uptoBulk d + 1
  | .map entries => uptoBulkEntries entries + 1
  | .held _ => 1
def uptoBulkAll {H : Type} : List (DataW H) → Nat
  | [] => 0
  | d :: r => uptoBulk d + uptoBulkAll r
def uptoBulkEntries {H : Type} : List (Lit × DataW H) → Nat
  | [] => 0
  | x :: r => uptoBulkEntry x + uptoBulkEntries r
def uptoBulkEntry {H : Type} : Lit × DataW H → Nat
  | (.string bytes, d) => bytes.length + uptoBulk d + 1
  | (_, d) => uptoBulk d + 1
 end
def uptoSmall : (H : Type) → List (DataW H) → Bool := fun _ ds => decide (uptoBulkAll ds ≤ 1048576)
def OpenSpec.upto (s : _root_.Go.ChangeSpec) : _root_.Go.OpenSpec := { _root_.Go.OpenSpec.ofChange s with cond := some uptoSmall }

/-- 'laws.FnValidGrid', WHERE WHAT IT READS IS OF BULK AT MOST 1048576: true; the input reads as it did. -/
def fnValidGridUptoRow : OpenClaim := { program := "ytidjnhlioebchaa", sum := "d3d4cdd86c06a5977fb95f39b77586b20433b555e4ab733d9185caf7a912ed30", func := "loop.example/braille/laws.FnValidGrid", spec := "fnValidGrid", apart := false, narrowed := true }
def FnValidGridUptoSaid : Prop := fnValidGridUptoRow.holds Try.pinned (OpenSpec.upto fnValidGridSpec)

/-- 'laws.FnColumnWidths', WHERE WHAT IT READS IS OF BULK AT MOST 1048576: true; the input reads as it did. -/
def fnColumnWidthsUptoRow : OpenClaim := { program := "ytidjnhlioebchaa", sum := "d3d4cdd86c06a5977fb95f39b77586b20433b555e4ab733d9185caf7a912ed30", func := "loop.example/braille/laws.FnColumnWidths", spec := "fnColumnWidths", apart := false, narrowed := true }
def FnColumnWidthsUptoSaid : Prop := fnColumnWidthsUptoRow.holds Try.pinned (OpenSpec.upto fnColumnWidthsSpec)

/-- 'laws.FnGridLines', WHERE WHAT IT READS IS OF BULK AT MOST 1048576: true; the input reads as it did. -/
def fnGridLinesUptoRow : OpenClaim := { program := "ytidjnhlioebchaa", sum := "d3d4cdd86c06a5977fb95f39b77586b20433b555e4ab733d9185caf7a912ed30", func := "loop.example/braille/laws.FnGridLines", spec := "fnGridLines", apart := false, narrowed := true }
def FnGridLinesUptoSaid : Prop := fnGridLinesUptoRow.holds Try.pinned (OpenSpec.upto fnGridLinesSpec)

/-- 'laws.FnGridLinesEven', WHERE WHAT IT READS IS OF BULK AT MOST 1048576: true; the input reads as it did. -/
def fnGridLinesEvenUptoRow : OpenClaim := { program := "ytidjnhlioebchaa", sum := "d3d4cdd86c06a5977fb95f39b77586b20433b555e4ab733d9185caf7a912ed30", func := "loop.example/braille/laws.FnGridLinesEven", spec := "fnGridLinesEven", apart := false, narrowed := true }
def FnGridLinesEvenUptoSaid : Prop := fnGridLinesEvenUptoRow.holds Try.pinned (OpenSpec.upto fnGridLinesEvenSpec)

/-- 'laws.FnGridLinesBack', WHERE WHAT IT READS IS OF BULK AT MOST 1048576: true; the input reads as it did. -/
def fnGridLinesBackUptoRow : OpenClaim := { program := "ytidjnhlioebchaa", sum := "d3d4cdd86c06a5977fb95f39b77586b20433b555e4ab733d9185caf7a912ed30", func := "loop.example/braille/laws.FnGridLinesBack", spec := "fnGridLinesBack", apart := false, narrowed := true }
def FnGridLinesBackUptoSaid : Prop := fnGridLinesBackUptoRow.holds Try.pinned (OpenSpec.upto fnGridLinesBackSpec)

/-- 'laws.FnReadGrid', WHERE WHAT IT READS IS OF BULK AT MOST 1048576: true; the input reads as it did. -/
def fnReadGridUptoRow : OpenClaim := { program := "ytidjnhlioebchaa", sum := "d3d4cdd86c06a5977fb95f39b77586b20433b555e4ab733d9185caf7a912ed30", func := "loop.example/braille/laws.FnReadGrid", spec := "fnReadGrid", apart := false, narrowed := true }
def FnReadGridUptoSaid : Prop := fnReadGridUptoRow.holds Try.pinned (OpenSpec.upto fnReadGridSpec)

/-- 'laws.FnGridLinesEntry', WHERE WHAT IT READS IS OF BULK AT MOST 1048576: true; the input reads as it did. -/
def fnGridLinesEntryUptoRow : OpenClaim := { program := "ytidjnhlioebchaa", sum := "d3d4cdd86c06a5977fb95f39b77586b20433b555e4ab733d9185caf7a912ed30", func := "loop.example/braille/laws.FnGridLinesEntry", spec := "fnGridLinesEntry", apart := false, narrowed := true }
def FnGridLinesEntryUptoSaid : Prop := fnGridLinesEntryUptoRow.holds Try.pinned (OpenSpec.upto fnGridLinesEntrySpec)

/-- 'laws.FnExactValidGrid', WHERE WHAT IT READS IS OF BULK AT MOST 1048576: true; the input reads as it did. -/
def fnExactValidGridUptoRow : OpenClaim := { program := "ytidjnhlioebchaa", sum := "d3d4cdd86c06a5977fb95f39b77586b20433b555e4ab733d9185caf7a912ed30", func := "loop.example/braille/laws.FnExactValidGrid", spec := "fnExactValidGrid", apart := false, narrowed := true }
def FnExactValidGridUptoSaid : Prop := fnExactValidGridUptoRow.holds Try.pinned (OpenSpec.upto fnExactValidGridSpec)

/-- 'laws.FnExactColumnWidths', WHERE WHAT IT READS IS OF BULK AT MOST 1048576: true; the input reads as it did. -/
def fnExactColumnWidthsUptoRow : OpenClaim := { program := "ytidjnhlioebchaa", sum := "d3d4cdd86c06a5977fb95f39b77586b20433b555e4ab733d9185caf7a912ed30", func := "loop.example/braille/laws.FnExactColumnWidths", spec := "fnExactColumnWidths", apart := false, narrowed := true }
def FnExactColumnWidthsUptoSaid : Prop := fnExactColumnWidthsUptoRow.holds Try.pinned (OpenSpec.upto fnExactColumnWidthsSpec)

/-- 'laws.FnExactGridLines', WHERE WHAT IT READS IS OF BULK AT MOST 1048576: true; the input reads as it did. -/
def fnExactGridLinesUptoRow : OpenClaim := { program := "ytidjnhlioebchaa", sum := "d3d4cdd86c06a5977fb95f39b77586b20433b555e4ab733d9185caf7a912ed30", func := "loop.example/braille/laws.FnExactGridLines", spec := "fnExactGridLines", apart := false, narrowed := true }
def FnExactGridLinesUptoSaid : Prop := fnExactGridLinesUptoRow.holds Try.pinned (OpenSpec.upto fnExactGridLinesSpec)

/-- 'laws.FnExactReadGrid', WHERE WHAT IT READS IS OF BULK AT MOST 1048576: true; the input reads as it did. -/
def fnExactReadGridUptoRow : OpenClaim := { program := "ytidjnhlioebchaa", sum := "d3d4cdd86c06a5977fb95f39b77586b20433b555e4ab733d9185caf7a912ed30", func := "loop.example/braille/laws.FnExactReadGrid", spec := "fnExactReadGrid", apart := false, narrowed := true }
def FnExactReadGridUptoSaid : Prop := fnExactReadGridUptoRow.holds Try.pinned (OpenSpec.upto fnExactReadGridSpec)

end Rows
end Go.Proofs.Ytidjnhlioebchaa
