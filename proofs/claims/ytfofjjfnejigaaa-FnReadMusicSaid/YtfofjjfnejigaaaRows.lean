/-
  No cell of these rows narrows 'for every input' (looked for: loops, veiled, ifaces, maps, wideKeys, modest, calm, conditions, laid).
  DERIVED. THE GIVEN ROWS OF THIS SEAT. 6 by the template 'for every input the law returns true; each argument reads behind the call as it read before'; 0 by the template 'total and deterministic' (their statements: YtfofjjfnejigaaaTotals.lean).
  GIVEN WITH THE SEED: the statements are not yours to turn. If you find one false, say at which input.
  Laid BY PROGRAM, IN A SANDBOX (cutbox-rows.mjs): the forced cells as the released guide's own fill.sh prints them over the translation 4ba90443c077b081… (all of the seat's roots in one cut). By AI agents, Wed Nov 11 2026. No macro, syntax, notation, axiom, sorry.
-/
import Derived.Test.YtfofjjfnejigaaaChecked
import GoSem.Claim
import GoSem.ClaimJoined
import GoSem.ClaimMapViews
import Derived.JoinedTies
import Derived.KernelRfl
namespace Go.Proofs.Ytfofjjfnejigaaa
/- THE CELL 'sum', in the pinned program and in every row, IS THE sha256 OF THE DUMP (.gsa) THAT YtfofjjfnejigaaaProg.lean LOADS. Nothing in Lean hashes anything: it is a label: what it is worth is what the hold of that sum in a sandbox is worth. -/
noncomputable def Try.pinned : Pinned := { name := "ytfofjjfnejigaaa", sum := "4ba90443c077b081e47569efd63ce868d67606ae99f24767664c05b2326af159", checked := Try.checked }
namespace Rows
def none {H : Type} : Left H := { results := [], args := [] }

/-- 'laws.FnMusicCells': WHATEVER THE INPUT: true; the input reads as it did. -/
def fnMusicCellsSpec : ChangeSpec := { name := "fnMusicCells", fn := fun _ => fun
  | [d] => { results := [.lit (.bool true)], args := [d] }
  | _ => none }
def fnMusicCellsRow : OpenClaim := { program := "ytfofjjfnejigaaa", sum := "4ba90443c077b081e47569efd63ce868d67606ae99f24767664c05b2326af159", func := "loop.example/braille/laws.FnMusicCells", spec := "fnMusicCells", apart := false }
def FnMusicCellsSaid : Prop := fnMusicCellsRow.holds Try.pinned (OpenSpec.ofChange fnMusicCellsSpec)

/-- ITS FALSE NEIGHBOUR: 'it returns false'. Refute it at one input. -/
def fnMusicCellsWrong : ChangeSpec := { name := "fnMusicCells", fn := fun _ => fun
  | [d] => { results := [.lit (.bool false)], args := [d] }
  | _ => none }
def FnMusicCellsWrongFalsely : Prop := fnMusicCellsRow.holds Try.pinned (OpenSpec.ofChange fnMusicCellsWrong)

/-- 'laws.FnMusicCellsOctave': WHATEVER THE INPUT: true; the input reads as it did. -/
def fnMusicCellsOctaveSpec : ChangeSpec := { name := "fnMusicCellsOctave", fn := fun _ => fun
  | [d] => { results := [.lit (.bool true)], args := [d] }
  | _ => none }
def fnMusicCellsOctaveRow : OpenClaim := { program := "ytfofjjfnejigaaa", sum := "4ba90443c077b081e47569efd63ce868d67606ae99f24767664c05b2326af159", func := "loop.example/braille/laws.FnMusicCellsOctave", spec := "fnMusicCellsOctave", apart := false }
def FnMusicCellsOctaveSaid : Prop := fnMusicCellsOctaveRow.holds Try.pinned (OpenSpec.ofChange fnMusicCellsOctaveSpec)

/-- ITS FALSE NEIGHBOUR: 'it returns false'. Refute it at one input. -/
def fnMusicCellsOctaveWrong : ChangeSpec := { name := "fnMusicCellsOctave", fn := fun _ => fun
  | [d] => { results := [.lit (.bool false)], args := [d] }
  | _ => none }
def FnMusicCellsOctaveWrongFalsely : Prop := fnMusicCellsOctaveRow.holds Try.pinned (OpenSpec.ofChange fnMusicCellsOctaveWrong)

/-- 'laws.FnMusicCellsStep': WHATEVER THE INPUT: true; the input reads as it did. -/
def fnMusicCellsStepSpec : ChangeSpec := { name := "fnMusicCellsStep", fn := fun _ => fun
  | [d] => { results := [.lit (.bool true)], args := [d] }
  | _ => none }
def fnMusicCellsStepRow : OpenClaim := { program := "ytfofjjfnejigaaa", sum := "4ba90443c077b081e47569efd63ce868d67606ae99f24767664c05b2326af159", func := "loop.example/braille/laws.FnMusicCellsStep", spec := "fnMusicCellsStep", apart := false }
def FnMusicCellsStepSaid : Prop := fnMusicCellsStepRow.holds Try.pinned (OpenSpec.ofChange fnMusicCellsStepSpec)

/-- ITS FALSE NEIGHBOUR: 'it returns false'. Refute it at one input. -/
def fnMusicCellsStepWrong : ChangeSpec := { name := "fnMusicCellsStep", fn := fun _ => fun
  | [d] => { results := [.lit (.bool false)], args := [d] }
  | _ => none }
def FnMusicCellsStepWrongFalsely : Prop := fnMusicCellsStepRow.holds Try.pinned (OpenSpec.ofChange fnMusicCellsStepWrong)

/-- 'laws.FnReadMusic': WHATEVER THE INPUT: true; the input reads as it did. -/
def fnReadMusicSpec : ChangeSpec := { name := "fnReadMusic", fn := fun _ => fun
  | [d] => { results := [.lit (.bool true)], args := [d] }
  | _ => none }
def fnReadMusicRow : OpenClaim := { program := "ytfofjjfnejigaaa", sum := "4ba90443c077b081e47569efd63ce868d67606ae99f24767664c05b2326af159", func := "loop.example/braille/laws.FnReadMusic", spec := "fnReadMusic", apart := false }
def FnReadMusicSaid : Prop := fnReadMusicRow.holds Try.pinned (OpenSpec.ofChange fnReadMusicSpec)

/-- ITS FALSE NEIGHBOUR: 'it returns false'. Refute it at one input. -/
def fnReadMusicWrong : ChangeSpec := { name := "fnReadMusic", fn := fun _ => fun
  | [d] => { results := [.lit (.bool false)], args := [d] }
  | _ => none }
def FnReadMusicWrongFalsely : Prop := fnReadMusicRow.holds Try.pinned (OpenSpec.ofChange fnReadMusicWrong)

/-- 'laws.FnExactMusicCells': WHATEVER THE INPUT: true; the input reads as it did. -/
def fnExactMusicCellsSpec : ChangeSpec := { name := "fnExactMusicCells", fn := fun _ => fun
  | [d] => { results := [.lit (.bool true)], args := [d] }
  | _ => none }
def fnExactMusicCellsRow : OpenClaim := { program := "ytfofjjfnejigaaa", sum := "4ba90443c077b081e47569efd63ce868d67606ae99f24767664c05b2326af159", func := "loop.example/braille/laws.FnExactMusicCells", spec := "fnExactMusicCells", apart := false }
def FnExactMusicCellsSaid : Prop := fnExactMusicCellsRow.holds Try.pinned (OpenSpec.ofChange fnExactMusicCellsSpec)

/-- ITS FALSE NEIGHBOUR: 'it returns false'. Refute it at one input. -/
def fnExactMusicCellsWrong : ChangeSpec := { name := "fnExactMusicCells", fn := fun _ => fun
  | [d] => { results := [.lit (.bool false)], args := [d] }
  | _ => none }
def FnExactMusicCellsWrongFalsely : Prop := fnExactMusicCellsRow.holds Try.pinned (OpenSpec.ofChange fnExactMusicCellsWrong)

/-- 'laws.FnExactReadMusic': WHATEVER THE INPUT: true; the input reads as it did. -/
def fnExactReadMusicSpec : ChangeSpec := { name := "fnExactReadMusic", fn := fun _ => fun
  | [d] => { results := [.lit (.bool true)], args := [d] }
  | _ => none }
def fnExactReadMusicRow : OpenClaim := { program := "ytfofjjfnejigaaa", sum := "4ba90443c077b081e47569efd63ce868d67606ae99f24767664c05b2326af159", func := "loop.example/braille/laws.FnExactReadMusic", spec := "fnExactReadMusic", apart := false }
def FnExactReadMusicSaid : Prop := fnExactReadMusicRow.holds Try.pinned (OpenSpec.ofChange fnExactReadMusicSpec)

/-- ITS FALSE NEIGHBOUR: 'it returns false'. Refute it at one input. -/
def fnExactReadMusicWrong : ChangeSpec := { name := "fnExactReadMusic", fn := fun _ => fun
  | [d] => { results := [.lit (.bool false)], args := [d] }
  | _ => none }
def FnExactReadMusicWrongFalsely : Prop := fnExactReadMusicRow.holds Try.pinned (OpenSpec.ofChange fnExactReadMusicWrong)

/- THE SECOND FORM. 'bulk': how many values and letters a reading holds, each counted each time it is reached (what is shared counts as often as it is met; a slice's spare places count too). A statement '..UptoSaid' is the law's where the arguments, and the package variables that the reading takes, are together of bulk at most 1048576: NARROWER than '..Said'. Prove '..Said' where nothing that the law and all that it calls make is longer than what came in: it says more and counts as full. Else prove '..UptoSaid'. A law counts once. -/
mutual
def uptoBulk {H : Type} : DataW H → Nat
  | .lit (.string bytes) => bytes.length + 1
  | .lit _ => 1
  | .nil => 1
  | .ptr d => uptoBulk d + 1
  | .slice elems spare => uptoBulkAll elems + uptoBulkAll spare + 1
  | .agg parts => uptoBulkAll parts + 1
  | .iface _ d => uptoBulk d + 1
  | .map entries => uptoBulkEntries entries + 1
  | .held _ => 1
def uptoBulkAll {H : Type} : List (DataW H) → Nat
  | [] => 0
  | d :: r => uptoBulk d + uptoBulkAll r
def uptoBulkEntries {H : Type} : List (Lit × DataW H) → Nat
  | [] => 0
  | x :: r => uptoBulkEntry x + uptoBulkEntries r
def uptoBulkEntry {H : Type} : Lit × DataW H → Nat
  | (.string bytes, d) => bytes.length + uptoBulk d + 1
  | (_, d) => uptoBulk d + 1
 end
def uptoSmall : (H : Type) → List (DataW H) → Bool := fun _ ds => decide (uptoBulkAll ds ≤ 1048576)
def OpenSpec.upto (s : _root_.Go.ChangeSpec) : _root_.Go.OpenSpec := { _root_.Go.OpenSpec.ofChange s with cond := some uptoSmall }

/-- 'laws.FnMusicCells', WHERE WHAT IT READS IS OF BULK AT MOST 1048576: true; the input reads as it did. -/
def fnMusicCellsUptoRow : OpenClaim := { program := "ytfofjjfnejigaaa", sum := "4ba90443c077b081e47569efd63ce868d67606ae99f24767664c05b2326af159", func := "loop.example/braille/laws.FnMusicCells", spec := "fnMusicCells", apart := false, narrowed := true }
def FnMusicCellsUptoSaid : Prop := fnMusicCellsUptoRow.holds Try.pinned (OpenSpec.upto fnMusicCellsSpec)

/-- 'laws.FnMusicCellsOctave', WHERE WHAT IT READS IS OF BULK AT MOST 1048576: true; the input reads as it did. -/
def fnMusicCellsOctaveUptoRow : OpenClaim := { program := "ytfofjjfnejigaaa", sum := "4ba90443c077b081e47569efd63ce868d67606ae99f24767664c05b2326af159", func := "loop.example/braille/laws.FnMusicCellsOctave", spec := "fnMusicCellsOctave", apart := false, narrowed := true }
def FnMusicCellsOctaveUptoSaid : Prop := fnMusicCellsOctaveUptoRow.holds Try.pinned (OpenSpec.upto fnMusicCellsOctaveSpec)

/-- 'laws.FnMusicCellsStep', WHERE WHAT IT READS IS OF BULK AT MOST 1048576: true; the input reads as it did. -/
def fnMusicCellsStepUptoRow : OpenClaim := { program := "ytfofjjfnejigaaa", sum := "4ba90443c077b081e47569efd63ce868d67606ae99f24767664c05b2326af159", func := "loop.example/braille/laws.FnMusicCellsStep", spec := "fnMusicCellsStep", apart := false, narrowed := true }
def FnMusicCellsStepUptoSaid : Prop := fnMusicCellsStepUptoRow.holds Try.pinned (OpenSpec.upto fnMusicCellsStepSpec)

/-- 'laws.FnReadMusic', WHERE WHAT IT READS IS OF BULK AT MOST 1048576: true; the input reads as it did. -/
def fnReadMusicUptoRow : OpenClaim := { program := "ytfofjjfnejigaaa", sum := "4ba90443c077b081e47569efd63ce868d67606ae99f24767664c05b2326af159", func := "loop.example/braille/laws.FnReadMusic", spec := "fnReadMusic", apart := false, narrowed := true }
def FnReadMusicUptoSaid : Prop := fnReadMusicUptoRow.holds Try.pinned (OpenSpec.upto fnReadMusicSpec)

/-- 'laws.FnExactMusicCells', WHERE WHAT IT READS IS OF BULK AT MOST 1048576: true; the input reads as it did. -/
def fnExactMusicCellsUptoRow : OpenClaim := { program := "ytfofjjfnejigaaa", sum := "4ba90443c077b081e47569efd63ce868d67606ae99f24767664c05b2326af159", func := "loop.example/braille/laws.FnExactMusicCells", spec := "fnExactMusicCells", apart := false, narrowed := true }
def FnExactMusicCellsUptoSaid : Prop := fnExactMusicCellsUptoRow.holds Try.pinned (OpenSpec.upto fnExactMusicCellsSpec)

/-- 'laws.FnExactReadMusic', WHERE WHAT IT READS IS OF BULK AT MOST 1048576: true; the input reads as it did. -/
def fnExactReadMusicUptoRow : OpenClaim := { program := "ytfofjjfnejigaaa", sum := "4ba90443c077b081e47569efd63ce868d67606ae99f24767664c05b2326af159", func := "loop.example/braille/laws.FnExactReadMusic", spec := "fnExactReadMusic", apart := false, narrowed := true }
def FnExactReadMusicUptoSaid : Prop := fnExactReadMusicUptoRow.holds Try.pinned (OpenSpec.upto fnExactReadMusicSpec)

end Rows
end Go.Proofs.Ytfofjjfnejigaaa
