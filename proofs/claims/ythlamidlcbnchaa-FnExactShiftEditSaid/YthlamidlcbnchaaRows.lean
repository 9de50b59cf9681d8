/-
  No cell of these rows narrows 'for every input' (looked for: loops, veiled, ifaces, maps, wideKeys, modest, calm, conditions, laid).
  DERIVED. THE GIVEN ROWS OF THIS SEAT. 11 by the template 'for every input the law returns true; each argument reads behind the call as it read before'; 0 by the template 'total and deterministic' (their statements: YthlamidlcbnchaaTotals.lean).
  GIVEN WITH THE SEED: the statements are not yours to turn. If you find one false, say at which input.
  Laid BY PROGRAM, IN A SANDBOX (cutbox-rows.mjs): the forced cells as the released guide's own fill.sh prints them over the translation 4e85c25dc1cf8669… (all of the seat's roots in one cut). By AI agents, Wed Nov 11 2026. No macro, syntax, notation, axiom, sorry.
-/
import Derived.Test.YthlamidlcbnchaaChecked
import GoSem.Claim
import GoSem.ClaimJoined
import GoSem.ClaimMapViews
import Derived.JoinedTies
import Derived.KernelRfl
namespace Go.Proofs.Ythlamidlcbnchaa
/- THE CELL 'sum', in the pinned program and in every row, IS THE sha256 OF THE DUMP (.gsa) THAT YthlamidlcbnchaaProg.lean LOADS. Nothing in Lean hashes anything: it is a label: what it is worth is what the hold of that sum in a sandbox is worth. -/
noncomputable def Try.pinned : Pinned := { name := "ythlamidlcbnchaa", sum := "4e85c25dc1cf8669c4199dd4c0e6f49464f951ca41708f9adc5f57ed00c59ad0", checked := Try.checked }
namespace Rows
def none {H : Type} : Left H := { results := [], args := [] }

/-- 'laws.FnApplyEdit': WHATEVER THE INPUT: true; the input reads as it did. -/
def fnApplyEditSpec : ChangeSpec := { name := "fnApplyEdit", fn := fun _ => fun
  | [d] => { results := [.lit (.bool true)], args := [d] }
  | _ => none }
def fnApplyEditRow : OpenClaim := { program := "ythlamidlcbnchaa", sum := "4e85c25dc1cf8669c4199dd4c0e6f49464f951ca41708f9adc5f57ed00c59ad0", func := "loop.example/braille/laws.FnApplyEdit", spec := "fnApplyEdit", apart := false }
def FnApplyEditSaid : Prop := fnApplyEditRow.holds Try.pinned (OpenSpec.ofChange fnApplyEditSpec)

/-- ITS FALSE NEIGHBOUR: 'it returns false'. Refute it at one input. -/
def fnApplyEditWrong : ChangeSpec := { name := "fnApplyEdit", fn := fun _ => fun
  | [d] => { results := [.lit (.bool false)], args := [d] }
  | _ => none }
def FnApplyEditWrongFalsely : Prop := fnApplyEditRow.holds Try.pinned (OpenSpec.ofChange fnApplyEditWrong)

/-- 'laws.FnInvertEdit': WHATEVER THE INPUT: true; the input reads as it did. -/
def fnInvertEditSpec : ChangeSpec := { name := "fnInvertEdit", fn := fun _ => fun
  | [d] => { results := [.lit (.bool true)], args := [d] }
  | _ => none }
def fnInvertEditRow : OpenClaim := { program := "ythlamidlcbnchaa", sum := "4e85c25dc1cf8669c4199dd4c0e6f49464f951ca41708f9adc5f57ed00c59ad0", func := "loop.example/braille/laws.FnInvertEdit", spec := "fnInvertEdit", apart := false }
def FnInvertEditSaid : Prop := fnInvertEditRow.holds Try.pinned (OpenSpec.ofChange fnInvertEditSpec)

/-- ITS FALSE NEIGHBOUR: 'it returns false'. Refute it at one input. -/
def fnInvertEditWrong : ChangeSpec := { name := "fnInvertEdit", fn := fun _ => fun
  | [d] => { results := [.lit (.bool false)], args := [d] }
  | _ => none }
def FnInvertEditWrongFalsely : Prop := fnInvertEditRow.holds Try.pinned (OpenSpec.ofChange fnInvertEditWrong)

/-- 'laws.FnMoveMark': WHATEVER THE INPUT: true; the input reads as it did. -/
def fnMoveMarkSpec : ChangeSpec := { name := "fnMoveMark", fn := fun _ => fun
  | [d] => { results := [.lit (.bool true)], args := [d] }
  | _ => none }
def fnMoveMarkRow : OpenClaim := { program := "ythlamidlcbnchaa", sum := "4e85c25dc1cf8669c4199dd4c0e6f49464f951ca41708f9adc5f57ed00c59ad0", func := "loop.example/braille/laws.FnMoveMark", spec := "fnMoveMark", apart := false }
def FnMoveMarkSaid : Prop := fnMoveMarkRow.holds Try.pinned (OpenSpec.ofChange fnMoveMarkSpec)

/-- ITS FALSE NEIGHBOUR: 'it returns false'. Refute it at one input. -/
def fnMoveMarkWrong : ChangeSpec := { name := "fnMoveMark", fn := fun _ => fun
  | [d] => { results := [.lit (.bool false)], args := [d] }
  | _ => none }
def FnMoveMarkWrongFalsely : Prop := fnMoveMarkRow.holds Try.pinned (OpenSpec.ofChange fnMoveMarkWrong)

/-- 'laws.FnMoveMarkText': WHATEVER THE INPUT: true; the input reads as it did. -/
def fnMoveMarkTextSpec : ChangeSpec := { name := "fnMoveMarkText", fn := fun _ => fun
  | [d] => { results := [.lit (.bool true)], args := [d] }
  | _ => none }
def fnMoveMarkTextRow : OpenClaim := { program := "ythlamidlcbnchaa", sum := "4e85c25dc1cf8669c4199dd4c0e6f49464f951ca41708f9adc5f57ed00c59ad0", func := "loop.example/braille/laws.FnMoveMarkText", spec := "fnMoveMarkText", apart := false }
def FnMoveMarkTextSaid : Prop := fnMoveMarkTextRow.holds Try.pinned (OpenSpec.ofChange fnMoveMarkTextSpec)

/-- ITS FALSE NEIGHBOUR: 'it returns false'. Refute it at one input. -/
def fnMoveMarkTextWrong : ChangeSpec := { name := "fnMoveMarkText", fn := fun _ => fun
  | [d] => { results := [.lit (.bool false)], args := [d] }
  | _ => none }
def FnMoveMarkTextWrongFalsely : Prop := fnMoveMarkTextRow.holds Try.pinned (OpenSpec.ofChange fnMoveMarkTextWrong)

/-- 'laws.FnMoveMarkBack': WHATEVER THE INPUT: true; the input reads as it did. -/
def fnMoveMarkBackSpec : ChangeSpec := { name := "fnMoveMarkBack", fn := fun _ => fun
  | [d] => { results := [.lit (.bool true)], args := [d] }
  | _ => none }
def fnMoveMarkBackRow : OpenClaim := { program := "ythlamidlcbnchaa", sum := "4e85c25dc1cf8669c4199dd4c0e6f49464f951ca41708f9adc5f57ed00c59ad0", func := "loop.example/braille/laws.FnMoveMarkBack", spec := "fnMoveMarkBack", apart := false }
def FnMoveMarkBackSaid : Prop := fnMoveMarkBackRow.holds Try.pinned (OpenSpec.ofChange fnMoveMarkBackSpec)

/-- ITS FALSE NEIGHBOUR: 'it returns false'. Refute it at one input. -/
def fnMoveMarkBackWrong : ChangeSpec := { name := "fnMoveMarkBack", fn := fun _ => fun
  | [d] => { results := [.lit (.bool false)], args := [d] }
  | _ => none }
def FnMoveMarkBackWrongFalsely : Prop := fnMoveMarkBackRow.holds Try.pinned (OpenSpec.ofChange fnMoveMarkBackWrong)

/-- 'laws.FnShiftEdit': WHATEVER THE INPUT: true; the input reads as it did. -/
def fnShiftEditSpec : ChangeSpec := { name := "fnShiftEdit", fn := fun _ => fun
  | [d] => { results := [.lit (.bool true)], args := [d] }
  | _ => none }
def fnShiftEditRow : OpenClaim := { program := "ythlamidlcbnchaa", sum := "4e85c25dc1cf8669c4199dd4c0e6f49464f951ca41708f9adc5f57ed00c59ad0", func := "loop.example/braille/laws.FnShiftEdit", spec := "fnShiftEdit", apart := false }
def FnShiftEditSaid : Prop := fnShiftEditRow.holds Try.pinned (OpenSpec.ofChange fnShiftEditSpec)

/-- ITS FALSE NEIGHBOUR: 'it returns false'. Refute it at one input. -/
def fnShiftEditWrong : ChangeSpec := { name := "fnShiftEdit", fn := fun _ => fun
  | [d] => { results := [.lit (.bool false)], args := [d] }
  | _ => none }
def FnShiftEditWrongFalsely : Prop := fnShiftEditRow.holds Try.pinned (OpenSpec.ofChange fnShiftEditWrong)

/-- 'laws.FnShiftEditFirst': WHATEVER THE INPUT: true; the input reads as it did. -/
def fnShiftEditFirstSpec : ChangeSpec := { name := "fnShiftEditFirst", fn := fun _ => fun
  | [d] => { results := [.lit (.bool true)], args := [d] }
  | _ => none }
def fnShiftEditFirstRow : OpenClaim := { program := "ythlamidlcbnchaa", sum := "4e85c25dc1cf8669c4199dd4c0e6f49464f951ca41708f9adc5f57ed00c59ad0", func := "loop.example/braille/laws.FnShiftEditFirst", spec := "fnShiftEditFirst", apart := false }
def FnShiftEditFirstSaid : Prop := fnShiftEditFirstRow.holds Try.pinned (OpenSpec.ofChange fnShiftEditFirstSpec)

/-- ITS FALSE NEIGHBOUR: 'it returns false'. Refute it at one input. -/
def fnShiftEditFirstWrong : ChangeSpec := { name := "fnShiftEditFirst", fn := fun _ => fun
  | [d] => { results := [.lit (.bool false)], args := [d] }
  | _ => none }
def FnShiftEditFirstWrongFalsely : Prop := fnShiftEditFirstRow.holds Try.pinned (OpenSpec.ofChange fnShiftEditFirstWrong)

/-- 'laws.FnExactApplyEdit': WHATEVER THE INPUT: true; the input reads as it did. -/
def fnExactApplyEditSpec : ChangeSpec := { name := "fnExactApplyEdit", fn := fun _ => fun
  | [d1, d2] => { results := [.lit (.bool true)], args := [d1, d2] }
  | _ => none }
def fnExactApplyEditRow : OpenClaim := { program := "ythlamidlcbnchaa", sum := "4e85c25dc1cf8669c4199dd4c0e6f49464f951ca41708f9adc5f57ed00c59ad0", func := "loop.example/braille/laws.FnExactApplyEdit", spec := "fnExactApplyEdit", apart := false }
def FnExactApplyEditSaid : Prop := fnExactApplyEditRow.holds Try.pinned (OpenSpec.ofChange fnExactApplyEditSpec)

/-- ITS FALSE NEIGHBOUR: 'it returns false'. Refute it at one input. -/
def fnExactApplyEditWrong : ChangeSpec := { name := "fnExactApplyEdit", fn := fun _ => fun
  | [d1, d2] => { results := [.lit (.bool false)], args := [d1, d2] }
  | _ => none }
def FnExactApplyEditWrongFalsely : Prop := fnExactApplyEditRow.holds Try.pinned (OpenSpec.ofChange fnExactApplyEditWrong)

/-- 'laws.FnExactInvertEdit': WHATEVER THE INPUT: true; the input reads as it did. -/
def fnExactInvertEditSpec : ChangeSpec := { name := "fnExactInvertEdit", fn := fun _ => fun
  | [d1, d2] => { results := [.lit (.bool true)], args := [d1, d2] }
  | _ => none }
def fnExactInvertEditRow : OpenClaim := { program := "ythlamidlcbnchaa", sum := "4e85c25dc1cf8669c4199dd4c0e6f49464f951ca41708f9adc5f57ed00c59ad0", func := "loop.example/braille/laws.FnExactInvertEdit", spec := "fnExactInvertEdit", apart := false }
def FnExactInvertEditSaid : Prop := fnExactInvertEditRow.holds Try.pinned (OpenSpec.ofChange fnExactInvertEditSpec)

/-- ITS FALSE NEIGHBOUR: 'it returns false'. Refute it at one input. -/
def fnExactInvertEditWrong : ChangeSpec := { name := "fnExactInvertEdit", fn := fun _ => fun
  | [d1, d2] => { results := [.lit (.bool false)], args := [d1, d2] }
  | _ => none }
def FnExactInvertEditWrongFalsely : Prop := fnExactInvertEditRow.holds Try.pinned (OpenSpec.ofChange fnExactInvertEditWrong)

/-- 'laws.FnExactMoveMark': WHATEVER THE INPUT: true; the input reads as it did. -/
def fnExactMoveMarkSpec : ChangeSpec := { name := "fnExactMoveMark", fn := fun _ => fun
  | [d1, d2, d3] => { results := [.lit (.bool true)], args := [d1, d2, d3] }
  | _ => none }
def fnExactMoveMarkRow : OpenClaim := { program := "ythlamidlcbnchaa", sum := "4e85c25dc1cf8669c4199dd4c0e6f49464f951ca41708f9adc5f57ed00c59ad0", func := "loop.example/braille/laws.FnExactMoveMark", spec := "fnExactMoveMark", apart := false }
def FnExactMoveMarkSaid : Prop := fnExactMoveMarkRow.holds Try.pinned (OpenSpec.ofChange fnExactMoveMarkSpec)

/-- ITS FALSE NEIGHBOUR: 'it returns false'. Refute it at one input. -/
def fnExactMoveMarkWrong : ChangeSpec := { name := "fnExactMoveMark", fn := fun _ => fun
  | [d1, d2, d3] => { results := [.lit (.bool false)], args := [d1, d2, d3] }
  | _ => none }
def FnExactMoveMarkWrongFalsely : Prop := fnExactMoveMarkRow.holds Try.pinned (OpenSpec.ofChange fnExactMoveMarkWrong)

/-- 'laws.FnExactShiftEdit': WHATEVER THE INPUT: true; the input reads as it did. -/
def fnExactShiftEditSpec : ChangeSpec := { name := "fnExactShiftEdit", fn := fun _ => fun
  | [d1, d2, d3] => { results := [.lit (.bool true)], args := [d1, d2, d3] }
  | _ => none }
def fnExactShiftEditRow : OpenClaim := { program := "ythlamidlcbnchaa", sum := "4e85c25dc1cf8669c4199dd4c0e6f49464f951ca41708f9adc5f57ed00c59ad0", func := "loop.example/braille/laws.FnExactShiftEdit", spec := "fnExactShiftEdit", apart := false }
def FnExactShiftEditSaid : Prop := fnExactShiftEditRow.holds Try.pinned (OpenSpec.ofChange fnExactShiftEditSpec)

/-- ITS FALSE NEIGHBOUR: 'it returns false'. Refute it at one input. -/
def fnExactShiftEditWrong : ChangeSpec := { name := "fnExactShiftEdit", fn := fun _ => fun
  | [d1, d2, d3] => { results := [.lit (.bool false)], args := [d1, d2, d3] }
  | _ => none }
def FnExactShiftEditWrongFalsely : Prop := fnExactShiftEditRow.holds Try.pinned (OpenSpec.ofChange fnExactShiftEditWrong)

/- THE SECOND FORM. 'bulk': how many values and letters a reading holds, each counted each time it is reached (what is shared counts as often as it is met; a slice's spare places count too). A statement '..UptoSaid' is the law's where the arguments, and the package variables that the reading takes, are together of bulk at most 1048576: NARROWER than '..Said'. Prove '..Said' where nothing that the law and all that it calls make is longer than what came in: it says more and counts as full. Else prove '..UptoSaid'. A law counts once. -/
mutual
def uptoBulk {H : Type} : DataW H → Nat
  | .lit (.string bytes) => bytes.length + 1
  | .lit _ => 1
  | .nil => 1
  | .ptr d => uptoBulk d + 1
  | .slice elems spare => uptoBulkAll elems + uptoBulkAll spare + 1
  | .agg parts => uptoBulkAll parts + 1
  | .iface _ d => uptoBulk d + 1
  | .map entries => uptoBulkEntries entries + 1
  | .held _ => 1
def uptoBulkAll {H : Type} : List (DataW H) → Nat
  | [] => 0
  | d :: r => uptoBulk d + uptoBulkAll r
def uptoBulkEntries {H : Type} : List (Lit × DataW H) → Nat
  | [] => 0
  | x :: r => uptoBulkEntry x + uptoBulkEntries r
def uptoBulkEntry {H : Type} : Lit × DataW H → Nat
  | (.string bytes, d) => bytes.length + uptoBulk d + 1
  | (_, d) => uptoBulk d + 1
 end
def uptoSmall : (H : Type) → List (DataW H) → Bool := fun _ ds => decide (uptoBulkAll ds ≤ 1048576)
def OpenSpec.upto (s : _root_.Go.ChangeSpec) : _root_.Go.OpenSpec := { _root_.Go.OpenSpec.ofChange s with cond := some uptoSmall }

/-- 'laws.FnApplyEdit', WHERE WHAT IT READS IS OF BULK AT MOST 1048576: true; the input reads as it did. -/
def fnApplyEditUptoRow : OpenClaim := { program := "ythlamidlcbnchaa", sum := "4e85c25dc1cf8669c4199dd4c0e6f49464f951ca41708f9adc5f57ed00c59ad0", func := "loop.example/braille/laws.FnApplyEdit", spec := "fnApplyEdit", apart := false, narrowed := true }
def FnApplyEditUptoSaid : Prop := fnApplyEditUptoRow.holds Try.pinned (OpenSpec.upto fnApplyEditSpec)

/-- 'laws.FnInvertEdit', WHERE WHAT IT READS IS OF BULK AT MOST 1048576: true; the input reads as it did. -/
def fnInvertEditUptoRow : OpenClaim := { program := "ythlamidlcbnchaa", sum := "4e85c25dc1cf8669c4199dd4c0e6f49464f951ca41708f9adc5f57ed00c59ad0", func := "loop.example/braille/laws.FnInvertEdit", spec := "fnInvertEdit", apart := false, narrowed := true }
def FnInvertEditUptoSaid : Prop := fnInvertEditUptoRow.holds Try.pinned (OpenSpec.upto fnInvertEditSpec)

/-- 'laws.FnMoveMark', WHERE WHAT IT READS IS OF BULK AT MOST 1048576: true; the input reads as it did. -/
def fnMoveMarkUptoRow : OpenClaim := { program := "ythlamidlcbnchaa", sum := "4e85c25dc1cf8669c4199dd4c0e6f49464f951ca41708f9adc5f57ed00c59ad0", func := "loop.example/braille/laws.FnMoveMark", spec := "fnMoveMark", apart := false, narrowed := true }
def FnMoveMarkUptoSaid : Prop := fnMoveMarkUptoRow.holds Try.pinned (OpenSpec.upto fnMoveMarkSpec)

/-- 'laws.FnMoveMarkText', WHERE WHAT IT READS IS OF BULK AT MOST 1048576: true; the input reads as it did. -/
def fnMoveMarkTextUptoRow : OpenClaim := { program := "ythlamidlcbnchaa", sum := "4e85c25dc1cf8669c4199dd4c0e6f49464f951ca41708f9adc5f57ed00c59ad0", func := "loop.example/braille/laws.FnMoveMarkText", spec := "fnMoveMarkText", apart := false, narrowed := true }
def FnMoveMarkTextUptoSaid : Prop := fnMoveMarkTextUptoRow.holds Try.pinned (OpenSpec.upto fnMoveMarkTextSpec)

/-- 'laws.FnMoveMarkBack', WHERE WHAT IT READS IS OF BULK AT MOST 1048576: true; the input reads as it did. -/
def fnMoveMarkBackUptoRow : OpenClaim := { program := "ythlamidlcbnchaa", sum := "4e85c25dc1cf8669c4199dd4c0e6f49464f951ca41708f9adc5f57ed00c59ad0", func := "loop.example/braille/laws.FnMoveMarkBack", spec := "fnMoveMarkBack", apart := false, narrowed := true }
def FnMoveMarkBackUptoSaid : Prop := fnMoveMarkBackUptoRow.holds Try.pinned (OpenSpec.upto fnMoveMarkBackSpec)

/-- 'laws.FnShiftEdit', WHERE WHAT IT READS IS OF BULK AT MOST 1048576: true; the input reads as it did. -/
def fnShiftEditUptoRow : OpenClaim := { program := "ythlamidlcbnchaa", sum := "4e85c25dc1cf8669c4199dd4c0e6f49464f951ca41708f9adc5f57ed00c59ad0", func := "loop.example/braille/laws.FnShiftEdit", spec := "fnShiftEdit", apart := false, narrowed := true }
def FnShiftEditUptoSaid : Prop := fnShiftEditUptoRow.holds Try.pinned (OpenSpec.upto fnShiftEditSpec)

/-- 'laws.FnShiftEditFirst', WHERE WHAT IT READS IS OF BULK AT MOST 1048576: true; the input reads as it did. -/
def fnShiftEditFirstUptoRow : OpenClaim := { program := "ythlamidlcbnchaa", sum := "4e85c25dc1cf8669c4199dd4c0e6f49464f951ca41708f9adc5f57ed00c59ad0", func := "loop.example/braille/laws.FnShiftEditFirst", spec := "fnShiftEditFirst", apart := false, narrowed := true }
def FnShiftEditFirstUptoSaid : Prop := fnShiftEditFirstUptoRow.holds Try.pinned (OpenSpec.upto fnShiftEditFirstSpec)

/-- 'laws.FnExactApplyEdit', WHERE WHAT IT READS IS OF BULK AT MOST 1048576: true; the input reads as it did. -/
def fnExactApplyEditUptoRow : OpenClaim := { program := "ythlamidlcbnchaa", sum := "4e85c25dc1cf8669c4199dd4c0e6f49464f951ca41708f9adc5f57ed00c59ad0", func := "loop.example/braille/laws.FnExactApplyEdit", spec := "fnExactApplyEdit", apart := false, narrowed := true }
def FnExactApplyEditUptoSaid : Prop := fnExactApplyEditUptoRow.holds Try.pinned (OpenSpec.upto fnExactApplyEditSpec)

/-- 'laws.FnExactInvertEdit', WHERE WHAT IT READS IS OF BULK AT MOST 1048576: true; the input reads as it did. -/
def fnExactInvertEditUptoRow : OpenClaim := { program := "ythlamidlcbnchaa", sum := "4e85c25dc1cf8669c4199dd4c0e6f49464f951ca41708f9adc5f57ed00c59ad0", func := "loop.example/braille/laws.FnExactInvertEdit", spec := "fnExactInvertEdit", apart := false, narrowed := true }
def FnExactInvertEditUptoSaid : Prop := fnExactInvertEditUptoRow.holds Try.pinned (OpenSpec.upto fnExactInvertEditSpec)

/-- 'laws.FnExactMoveMark', WHERE WHAT IT READS IS OF BULK AT MOST 1048576: true; the input reads as it did. -/
def fnExactMoveMarkUptoRow : OpenClaim := { program := "ythlamidlcbnchaa", sum := "4e85c25dc1cf8669c4199dd4c0e6f49464f951ca41708f9adc5f57ed00c59ad0", func := "loop.example/braille/laws.FnExactMoveMark", spec := "fnExactMoveMark", apart := false, narrowed := true }
def FnExactMoveMarkUptoSaid : Prop := fnExactMoveMarkUptoRow.holds Try.pinned (OpenSpec.upto fnExactMoveMarkSpec)

/-- 'laws.FnExactShiftEdit', WHERE WHAT IT READS IS OF BULK AT MOST 1048576: true; the input reads as it did. -/
def fnExactShiftEditUptoRow : OpenClaim := { program := "ythlamidlcbnchaa", sum := "4e85c25dc1cf8669c4199dd4c0e6f49464f951ca41708f9adc5f57ed00c59ad0", func := "loop.example/braille/laws.FnExactShiftEdit", spec := "fnExactShiftEdit", apart := false, narrowed := true }
def FnExactShiftEditUptoSaid : Prop := fnExactShiftEditUptoRow.holds Try.pinned (OpenSpec.upto fnExactShiftEditSpec)

end Rows
end Go.Proofs.Ythlamidlcbnchaa
