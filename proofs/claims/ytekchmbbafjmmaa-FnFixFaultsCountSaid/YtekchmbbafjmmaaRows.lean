/-
  No cell of these rows narrows 'for every input' (looked for: loops, veiled, ifaces, maps, wideKeys, modest, calm, conditions, laid).
  DERIVED. THE GIVEN ROWS OF THIS SEAT. 15 by the template 'for every input the law returns true; each argument reads behind the call as it read before'; 0 by the template 'total and deterministic' (their statements: YtekchmbbafjmmaaTotals.lean).
  GIVEN WITH THE SEED: the statements are not yours to turn. If you find one false, say at which input.
  Laid BY PROGRAM, IN A SANDBOX (cutbox-rows.mjs): the forced cells as the released guide's own fill.sh prints them over the translation 1db543410f92d5e4… (all of the seat's roots in one cut). By AI agents, Wed Nov 11 2026. No macro, syntax, notation, axiom, sorry.
-/
import Derived.Test.YtekchmbbafjmmaaChecked
import GoSem.Claim
import GoSem.ClaimJoined
import GoSem.ClaimMapViews
import Derived.JoinedTies
import Derived.KernelRfl
namespace Go.Proofs.Ytekchmbbafjmmaa
/- THE CELL 'sum', in the pinned program and in every row, IS THE sha256 OF THE DUMP (.gsa) THAT YtekchmbbafjmmaaProg.lean LOADS. Nothing in Lean hashes anything: it is a label: what it is worth is what the hold of that sum in a sandbox is worth. -/
noncomputable def Try.pinned : Pinned := { name := "ytekchmbbafjmmaa", sum := "1db543410f92d5e41af93ccb36cb12a6d46bec746bc93cc6c7b24e6ba5e35534", checked := Try.checked }
namespace Rows
def none {H : Type} : Left H := { results := [], args := [] }

/-- 'laws.FnKindOf': WHATEVER THE INPUT: true; the input reads as it did. -/
def fnKindOfSpec : ChangeSpec := { name := "fnKindOf", fn := fun _ => fun
  | [d] => { results := [.lit (.bool true)], args := [d] }
  | _ => none }
def fnKindOfRow : OpenClaim := { program := "ytekchmbbafjmmaa", sum := "1db543410f92d5e41af93ccb36cb12a6d46bec746bc93cc6c7b24e6ba5e35534", func := "loop.example/braille/laws.FnKindOf", spec := "fnKindOf", apart := false }
def FnKindOfSaid : Prop := fnKindOfRow.holds Try.pinned (OpenSpec.ofChange fnKindOfSpec)

/-- ITS FALSE NEIGHBOUR: 'it returns false'. Refute it at one input. -/
def fnKindOfWrong : ChangeSpec := { name := "fnKindOf", fn := fun _ => fun
  | [d] => { results := [.lit (.bool false)], args := [d] }
  | _ => none }
def FnKindOfWrongFalsely : Prop := fnKindOfRow.holds Try.pinned (OpenSpec.ofChange fnKindOfWrong)

/-- 'laws.FnKindOfMirror': WHATEVER THE INPUT: true; the input reads as it did. -/
def fnKindOfMirrorSpec : ChangeSpec := { name := "fnKindOfMirror", fn := fun _ => fun
  | [d] => { results := [.lit (.bool true)], args := [d] }
  | _ => none }
def fnKindOfMirrorRow : OpenClaim := { program := "ytekchmbbafjmmaa", sum := "1db543410f92d5e41af93ccb36cb12a6d46bec746bc93cc6c7b24e6ba5e35534", func := "loop.example/braille/laws.FnKindOfMirror", spec := "fnKindOfMirror", apart := false }
def FnKindOfMirrorSaid : Prop := fnKindOfMirrorRow.holds Try.pinned (OpenSpec.ofChange fnKindOfMirrorSpec)

/-- ITS FALSE NEIGHBOUR: 'it returns false'. Refute it at one input. -/
def fnKindOfMirrorWrong : ChangeSpec := { name := "fnKindOfMirror", fn := fun _ => fun
  | [d] => { results := [.lit (.bool false)], args := [d] }
  | _ => none }
def FnKindOfMirrorWrongFalsely : Prop := fnKindOfMirrorRow.holds Try.pinned (OpenSpec.ofChange fnKindOfMirrorWrong)

/-- 'laws.FnKindOfDots': WHATEVER THE INPUT: true; the input reads as it did. -/
def fnKindOfDotsSpec : ChangeSpec := { name := "fnKindOfDots", fn := fun _ => fun
  | [d] => { results := [.lit (.bool true)], args := [d] }
  | _ => none }
def fnKindOfDotsRow : OpenClaim := { program := "ytekchmbbafjmmaa", sum := "1db543410f92d5e41af93ccb36cb12a6d46bec746bc93cc6c7b24e6ba5e35534", func := "loop.example/braille/laws.FnKindOfDots", spec := "fnKindOfDots", apart := false }
def FnKindOfDotsSaid : Prop := fnKindOfDotsRow.holds Try.pinned (OpenSpec.ofChange fnKindOfDotsSpec)

/-- ITS FALSE NEIGHBOUR: 'it returns false'. Refute it at one input. -/
def fnKindOfDotsWrong : ChangeSpec := { name := "fnKindOfDots", fn := fun _ => fun
  | [d] => { results := [.lit (.bool false)], args := [d] }
  | _ => none }
def FnKindOfDotsWrongFalsely : Prop := fnKindOfDotsRow.holds Try.pinned (OpenSpec.ofChange fnKindOfDotsWrong)

/-- 'laws.FnProofCost': WHATEVER THE INPUT: true; the input reads as it did. -/
def fnProofCostSpec : ChangeSpec := { name := "fnProofCost", fn := fun _ => fun
  | [d] => { results := [.lit (.bool true)], args := [d] }
  | _ => none }
def fnProofCostRow : OpenClaim := { program := "ytekchmbbafjmmaa", sum := "1db543410f92d5e41af93ccb36cb12a6d46bec746bc93cc6c7b24e6ba5e35534", func := "loop.example/braille/laws.FnProofCost", spec := "fnProofCost", apart := false }
def FnProofCostSaid : Prop := fnProofCostRow.holds Try.pinned (OpenSpec.ofChange fnProofCostSpec)

/-- ITS FALSE NEIGHBOUR: 'it returns false'. Refute it at one input. -/
def fnProofCostWrong : ChangeSpec := { name := "fnProofCost", fn := fun _ => fun
  | [d] => { results := [.lit (.bool false)], args := [d] }
  | _ => none }
def FnProofCostWrongFalsely : Prop := fnProofCostRow.holds Try.pinned (OpenSpec.ofChange fnProofCostWrong)

/-- 'laws.FnProofCostWay': WHATEVER THE INPUT: true; the input reads as it did. -/
def fnProofCostWaySpec : ChangeSpec := { name := "fnProofCostWay", fn := fun _ => fun
  | [d] => { results := [.lit (.bool true)], args := [d] }
  | _ => none }
def fnProofCostWayRow : OpenClaim := { program := "ytekchmbbafjmmaa", sum := "1db543410f92d5e41af93ccb36cb12a6d46bec746bc93cc6c7b24e6ba5e35534", func := "loop.example/braille/laws.FnProofCostWay", spec := "fnProofCostWay", apart := false }
def FnProofCostWaySaid : Prop := fnProofCostWayRow.holds Try.pinned (OpenSpec.ofChange fnProofCostWaySpec)

/-- ITS FALSE NEIGHBOUR: 'it returns false'. Refute it at one input. -/
def fnProofCostWayWrong : ChangeSpec := { name := "fnProofCostWay", fn := fun _ => fun
  | [d] => { results := [.lit (.bool false)], args := [d] }
  | _ => none }
def FnProofCostWayWrongFalsely : Prop := fnProofCostWayRow.holds Try.pinned (OpenSpec.ofChange fnProofCostWayWrong)

/-- 'laws.FnProofCostMirror': WHATEVER THE INPUT: true; the input reads as it did. -/
def fnProofCostMirrorSpec : ChangeSpec := { name := "fnProofCostMirror", fn := fun _ => fun
  | [d] => { results := [.lit (.bool true)], args := [d] }
  | _ => none }
def fnProofCostMirrorRow : OpenClaim := { program := "ytekchmbbafjmmaa", sum := "1db543410f92d5e41af93ccb36cb12a6d46bec746bc93cc6c7b24e6ba5e35534", func := "loop.example/braille/laws.FnProofCostMirror", spec := "fnProofCostMirror", apart := false }
def FnProofCostMirrorSaid : Prop := fnProofCostMirrorRow.holds Try.pinned (OpenSpec.ofChange fnProofCostMirrorSpec)

/-- ITS FALSE NEIGHBOUR: 'it returns false'. Refute it at one input. -/
def fnProofCostMirrorWrong : ChangeSpec := { name := "fnProofCostMirror", fn := fun _ => fun
  | [d] => { results := [.lit (.bool false)], args := [d] }
  | _ => none }
def FnProofCostMirrorWrongFalsely : Prop := fnProofCostMirrorRow.holds Try.pinned (OpenSpec.ofChange fnProofCostMirrorWrong)

/-- 'laws.FnProofCostParts': WHATEVER THE INPUT: true; the input reads as it did. -/
def fnProofCostPartsSpec : ChangeSpec := { name := "fnProofCostParts", fn := fun _ => fun
  | [d] => { results := [.lit (.bool true)], args := [d] }
  | _ => none }
def fnProofCostPartsRow : OpenClaim := { program := "ytekchmbbafjmmaa", sum := "1db543410f92d5e41af93ccb36cb12a6d46bec746bc93cc6c7b24e6ba5e35534", func := "loop.example/braille/laws.FnProofCostParts", spec := "fnProofCostParts", apart := false }
def FnProofCostPartsSaid : Prop := fnProofCostPartsRow.holds Try.pinned (OpenSpec.ofChange fnProofCostPartsSpec)

/-- ITS FALSE NEIGHBOUR: 'it returns false'. Refute it at one input. -/
def fnProofCostPartsWrong : ChangeSpec := { name := "fnProofCostParts", fn := fun _ => fun
  | [d] => { results := [.lit (.bool false)], args := [d] }
  | _ => none }
def FnProofCostPartsWrongFalsely : Prop := fnProofCostPartsRow.holds Try.pinned (OpenSpec.ofChange fnProofCostPartsWrong)

/-- 'laws.FnProofSteps': WHATEVER THE INPUT: true; the input reads as it did. -/
def fnProofStepsSpec : ChangeSpec := { name := "fnProofSteps", fn := fun _ => fun
  | [d] => { results := [.lit (.bool true)], args := [d] }
  | _ => none }
def fnProofStepsRow : OpenClaim := { program := "ytekchmbbafjmmaa", sum := "1db543410f92d5e41af93ccb36cb12a6d46bec746bc93cc6c7b24e6ba5e35534", func := "loop.example/braille/laws.FnProofSteps", spec := "fnProofSteps", apart := false }
def FnProofStepsSaid : Prop := fnProofStepsRow.holds Try.pinned (OpenSpec.ofChange fnProofStepsSpec)

/-- ITS FALSE NEIGHBOUR: 'it returns false'. Refute it at one input. -/
def fnProofStepsWrong : ChangeSpec := { name := "fnProofSteps", fn := fun _ => fun
  | [d] => { results := [.lit (.bool false)], args := [d] }
  | _ => none }
def FnProofStepsWrongFalsely : Prop := fnProofStepsRow.holds Try.pinned (OpenSpec.ofChange fnProofStepsWrong)

/-- 'laws.FnProofStepsCost': WHATEVER THE INPUT: true; the input reads as it did. -/
def fnProofStepsCostSpec : ChangeSpec := { name := "fnProofStepsCost", fn := fun _ => fun
  | [d] => { results := [.lit (.bool true)], args := [d] }
  | _ => none }
def fnProofStepsCostRow : OpenClaim := { program := "ytekchmbbafjmmaa", sum := "1db543410f92d5e41af93ccb36cb12a6d46bec746bc93cc6c7b24e6ba5e35534", func := "loop.example/braille/laws.FnProofStepsCost", spec := "fnProofStepsCost", apart := false }
def FnProofStepsCostSaid : Prop := fnProofStepsCostRow.holds Try.pinned (OpenSpec.ofChange fnProofStepsCostSpec)

/-- ITS FALSE NEIGHBOUR: 'it returns false'. Refute it at one input. -/
def fnProofStepsCostWrong : ChangeSpec := { name := "fnProofStepsCost", fn := fun _ => fun
  | [d] => { results := [.lit (.bool false)], args := [d] }
  | _ => none }
def FnProofStepsCostWrongFalsely : Prop := fnProofStepsCostRow.holds Try.pinned (OpenSpec.ofChange fnProofStepsCostWrong)

/-- 'laws.FnFixFaults': WHATEVER THE INPUT: true; the input reads as it did. -/
def fnFixFaultsSpec : ChangeSpec := { name := "fnFixFaults", fn := fun _ => fun
  | [d] => { results := [.lit (.bool true)], args := [d] }
  | _ => none }
def fnFixFaultsRow : OpenClaim := { program := "ytekchmbbafjmmaa", sum := "1db543410f92d5e41af93ccb36cb12a6d46bec746bc93cc6c7b24e6ba5e35534", func := "loop.example/braille/laws.FnFixFaults", spec := "fnFixFaults", apart := false }
def FnFixFaultsSaid : Prop := fnFixFaultsRow.holds Try.pinned (OpenSpec.ofChange fnFixFaultsSpec)

/-- ITS FALSE NEIGHBOUR: 'it returns false'. Refute it at one input. -/
def fnFixFaultsWrong : ChangeSpec := { name := "fnFixFaults", fn := fun _ => fun
  | [d] => { results := [.lit (.bool false)], args := [d] }
  | _ => none }
def FnFixFaultsWrongFalsely : Prop := fnFixFaultsRow.holds Try.pinned (OpenSpec.ofChange fnFixFaultsWrong)

/-- 'laws.FnFixFaultsCount': WHATEVER THE INPUT: true; the input reads as it did. -/
def fnFixFaultsCountSpec : ChangeSpec := { name := "fnFixFaultsCount", fn := fun _ => fun
  | [d] => { results := [.lit (.bool true)], args := [d] }
  | _ => none }
def fnFixFaultsCountRow : OpenClaim := { program := "ytekchmbbafjmmaa", sum := "1db543410f92d5e41af93ccb36cb12a6d46bec746bc93cc6c7b24e6ba5e35534", func := "loop.example/braille/laws.FnFixFaultsCount", spec := "fnFixFaultsCount", apart := false }
def FnFixFaultsCountSaid : Prop := fnFixFaultsCountRow.holds Try.pinned (OpenSpec.ofChange fnFixFaultsCountSpec)

/-- ITS FALSE NEIGHBOUR: 'it returns false'. Refute it at one input. -/
def fnFixFaultsCountWrong : ChangeSpec := { name := "fnFixFaultsCount", fn := fun _ => fun
  | [d] => { results := [.lit (.bool false)], args := [d] }
  | _ => none }
def FnFixFaultsCountWrongFalsely : Prop := fnFixFaultsCountRow.holds Try.pinned (OpenSpec.ofChange fnFixFaultsCountWrong)

/-- 'laws.FnExactKindOf': WHATEVER THE INPUT: true; the input reads as it did. -/
def fnExactKindOfSpec : ChangeSpec := { name := "fnExactKindOf", fn := fun _ => fun
  | [d1, d2] => { results := [.lit (.bool true)], args := [d1, d2] }
  | _ => none }
def fnExactKindOfRow : OpenClaim := { program := "ytekchmbbafjmmaa", sum := "1db543410f92d5e41af93ccb36cb12a6d46bec746bc93cc6c7b24e6ba5e35534", func := "loop.example/braille/laws.FnExactKindOf", spec := "fnExactKindOf", apart := false }
def FnExactKindOfSaid : Prop := fnExactKindOfRow.holds Try.pinned (OpenSpec.ofChange fnExactKindOfSpec)

/-- ITS FALSE NEIGHBOUR: 'it returns false'. Refute it at one input. -/
def fnExactKindOfWrong : ChangeSpec := { name := "fnExactKindOf", fn := fun _ => fun
  | [d1, d2] => { results := [.lit (.bool false)], args := [d1, d2] }
  | _ => none }
def FnExactKindOfWrongFalsely : Prop := fnExactKindOfRow.holds Try.pinned (OpenSpec.ofChange fnExactKindOfWrong)

/-- 'laws.FnExactProofCost': WHATEVER THE INPUT: true; the input reads as it did. -/
def fnExactProofCostSpec : ChangeSpec := { name := "fnExactProofCost", fn := fun _ => fun
  | [d1, d2] => { results := [.lit (.bool true)], args := [d1, d2] }
  | _ => none }
def fnExactProofCostRow : OpenClaim := { program := "ytekchmbbafjmmaa", sum := "1db543410f92d5e41af93ccb36cb12a6d46bec746bc93cc6c7b24e6ba5e35534", func := "loop.example/braille/laws.FnExactProofCost", spec := "fnExactProofCost", apart := false }
def FnExactProofCostSaid : Prop := fnExactProofCostRow.holds Try.pinned (OpenSpec.ofChange fnExactProofCostSpec)

/-- ITS FALSE NEIGHBOUR: 'it returns false'. Refute it at one input. -/
def fnExactProofCostWrong : ChangeSpec := { name := "fnExactProofCost", fn := fun _ => fun
  | [d1, d2] => { results := [.lit (.bool false)], args := [d1, d2] }
  | _ => none }
def FnExactProofCostWrongFalsely : Prop := fnExactProofCostRow.holds Try.pinned (OpenSpec.ofChange fnExactProofCostWrong)

/-- 'laws.FnExactProofSteps': WHATEVER THE INPUT: true; the input reads as it did. -/
def fnExactProofStepsSpec : ChangeSpec := { name := "fnExactProofSteps", fn := fun _ => fun
  | [d1, d2] => { results := [.lit (.bool true)], args := [d1, d2] }
  | _ => none }
def fnExactProofStepsRow : OpenClaim := { program := "ytekchmbbafjmmaa", sum := "1db543410f92d5e41af93ccb36cb12a6d46bec746bc93cc6c7b24e6ba5e35534", func := "loop.example/braille/laws.FnExactProofSteps", spec := "fnExactProofSteps", apart := false }
def FnExactProofStepsSaid : Prop := fnExactProofStepsRow.holds Try.pinned (OpenSpec.ofChange fnExactProofStepsSpec)

/-- ITS FALSE NEIGHBOUR: 'it returns false'. Refute it at one input. -/
def fnExactProofStepsWrong : ChangeSpec := { name := "fnExactProofSteps", fn := fun _ => fun
  | [d1, d2] => { results := [.lit (.bool false)], args := [d1, d2] }
  | _ => none }
def FnExactProofStepsWrongFalsely : Prop := fnExactProofStepsRow.holds Try.pinned (OpenSpec.ofChange fnExactProofStepsWrong)

/-- 'laws.FnExactFixFaults': WHATEVER THE INPUT: true; the input reads as it did. -/
def fnExactFixFaultsSpec : ChangeSpec := { name := "fnExactFixFaults", fn := fun _ => fun
  | [d1, d2] => { results := [.lit (.bool true)], args := [d1, d2] }
  | _ => none }
def fnExactFixFaultsRow : OpenClaim := { program := "ytekchmbbafjmmaa", sum := "1db543410f92d5e41af93ccb36cb12a6d46bec746bc93cc6c7b24e6ba5e35534", func := "loop.example/braille/laws.FnExactFixFaults", spec := "fnExactFixFaults", apart := false }
def FnExactFixFaultsSaid : Prop := fnExactFixFaultsRow.holds Try.pinned (OpenSpec.ofChange fnExactFixFaultsSpec)

/-- ITS FALSE NEIGHBOUR: 'it returns false'. Refute it at one input. -/
def fnExactFixFaultsWrong : ChangeSpec := { name := "fnExactFixFaults", fn := fun _ => fun
  | [d1, d2] => { results := [.lit (.bool false)], args := [d1, d2] }
  | _ => none }
def FnExactFixFaultsWrongFalsely : Prop := fnExactFixFaultsRow.holds Try.pinned (OpenSpec.ofChange fnExactFixFaultsWrong)

/- THE SECOND FORM. 'bulk': how many values and letters a reading holds, each counted each time it is reached (what is shared counts as often as it is met; a slice's spare places count too). A statement '..UptoSaid' is the law's where the arguments, and the package variables that the reading takes, are together of bulk at most 1048576: NARROWER than '..Said'. Prove '..Said' where nothing that the law and all that it calls make is longer than what came in: it says more and counts as full. Else prove '..UptoSaid'. A law counts once. -/
mutual
def uptoBulk {H : Type} : DataW H → Nat
  | .lit (.string bytes) => bytes.length + 1
  | .lit _ => 1
  | .nil => 1
  | .ptr d => uptoBulk d + 1
  | .slice elems spare => uptoBulkAll elems + uptoBulkAll spare + 1
  | .agg parts => uptoBulkAll parts + 1
  | .iface _ d => uptoBulk d + 1
  | .map entries => uptoBulkEntries entries + 1
  | .held _ => 1
def uptoBulkAll {H : Type} : List (DataW H) → Nat
  | [] => 0
  | d :: r => uptoBulk d + uptoBulkAll r
def uptoBulkEntries {H : Type} : List (Lit × DataW H) → Nat
  | [] => 0
  | x :: r => uptoBulkEntry x + uptoBulkEntries r
def uptoBulkEntry {H : Type} : Lit × DataW H → Nat
  | (.string bytes, d) => bytes.length + uptoBulk d + 1
  | (_, d) => uptoBulk d + 1
 end
def uptoSmall : (H : Type) → List (DataW H) → Bool := fun _ ds => decide (uptoBulkAll ds ≤ 1048576)
def OpenSpec.upto (s : _root_.Go.ChangeSpec) : _root_.Go.OpenSpec := { _root_.Go.OpenSpec.ofChange s with cond := some uptoSmall }

/-- 'laws.FnKindOf', WHERE WHAT IT READS IS OF BULK AT MOST 1048576: true; the input reads as it did. -/
def fnKindOfUptoRow : OpenClaim := { program := "ytekchmbbafjmmaa", sum := "1db543410f92d5e41af93ccb36cb12a6d46bec746bc93cc6c7b24e6ba5e35534", func := "loop.example/braille/laws.FnKindOf", spec := "fnKindOf", apart := false, narrowed := true }
def FnKindOfUptoSaid : Prop := fnKindOfUptoRow.holds Try.pinned (OpenSpec.upto fnKindOfSpec)

/-- 'laws.FnKindOfMirror', WHERE WHAT IT READS IS OF BULK AT MOST 1048576: true; the input reads as it did. -/
def fnKindOfMirrorUptoRow : OpenClaim := { program := "ytekchmbbafjmmaa", sum := "1db543410f92d5e41af93ccb36cb12a6d46bec746bc93cc6c7b24e6ba5e35534", func := "loop.example/braille/laws.FnKindOfMirror", spec := "fnKindOfMirror", apart := false, narrowed := true }
def FnKindOfMirrorUptoSaid : Prop := fnKindOfMirrorUptoRow.holds Try.pinned (OpenSpec.upto fnKindOfMirrorSpec)

/-- 'laws.FnKindOfDots', WHERE WHAT IT READS IS OF BULK AT MOST 1048576: true; the input reads as it did. -/
def fnKindOfDotsUptoRow : OpenClaim := { program := "ytekchmbbafjmmaa", sum := "1db543410f92d5e41af93ccb36cb12a6d46bec746bc93cc6c7b24e6ba5e35534", func := "loop.example/braille/laws.FnKindOfDots", spec := "fnKindOfDots", apart := false, narrowed := true }
def FnKindOfDotsUptoSaid : Prop := fnKindOfDotsUptoRow.holds Try.pinned (OpenSpec.upto fnKindOfDotsSpec)

/-- 'laws.FnProofCost', WHERE WHAT IT READS IS OF BULK AT MOST 1048576: true; the input reads as it did. -/
def fnProofCostUptoRow : OpenClaim := { program := "ytekchmbbafjmmaa", sum := "1db543410f92d5e41af93ccb36cb12a6d46bec746bc93cc6c7b24e6ba5e35534", func := "loop.example/braille/laws.FnProofCost", spec := "fnProofCost", apart := false, narrowed := true }
def FnProofCostUptoSaid : Prop := fnProofCostUptoRow.holds Try.pinned (OpenSpec.upto fnProofCostSpec)

/-- 'laws.FnProofCostWay', WHERE WHAT IT READS IS OF BULK AT MOST 1048576: true; the input reads as it did. -/
def fnProofCostWayUptoRow : OpenClaim := { program := "ytekchmbbafjmmaa", sum := "1db543410f92d5e41af93ccb36cb12a6d46bec746bc93cc6c7b24e6ba5e35534", func := "loop.example/braille/laws.FnProofCostWay", spec := "fnProofCostWay", apart := false, narrowed := true }
def FnProofCostWayUptoSaid : Prop := fnProofCostWayUptoRow.holds Try.pinned (OpenSpec.upto fnProofCostWaySpec)

/-- 'laws.FnProofCostMirror', WHERE WHAT IT READS IS OF BULK AT MOST 1048576: true; the input reads as it did. -/
def fnProofCostMirrorUptoRow : OpenClaim := { program := "ytekchmbbafjmmaa", sum := "1db543410f92d5e41af93ccb36cb12a6d46bec746bc93cc6c7b24e6ba5e35534", func := "loop.example/braille/laws.FnProofCostMirror", spec := "fnProofCostMirror", apart := false, narrowed := true }
def FnProofCostMirrorUptoSaid : Prop := fnProofCostMirrorUptoRow.holds Try.pinned (OpenSpec.upto fnProofCostMirrorSpec)

/-- 'laws.FnProofCostParts', WHERE WHAT IT READS IS OF BULK AT MOST 1048576: true; the input reads as it did. -/
def fnProofCostPartsUptoRow : OpenClaim := { program := "ytekchmbbafjmmaa", sum := "1db543410f92d5e41af93ccb36cb12a6d46bec746bc93cc6c7b24e6ba5e35534", func := "loop.example/braille/laws.FnProofCostParts", spec := "fnProofCostParts", apart := false, narrowed := true }
def FnProofCostPartsUptoSaid : Prop := fnProofCostPartsUptoRow.holds Try.pinned (OpenSpec.upto fnProofCostPartsSpec)

/-- 'laws.FnProofSteps', WHERE WHAT IT READS IS OF BULK AT MOST 1048576: true; the input reads as it did. -/
def fnProofStepsUptoRow : OpenClaim := { program := "ytekchmbbafjmmaa", sum := "1db543410f92d5e41af93ccb36cb12a6d46bec746bc93cc6c7b24e6ba5e35534", func := "loop.example/braille/laws.FnProofSteps", spec := "fnProofSteps", apart := false, narrowed := true }
def FnProofStepsUptoSaid : Prop := fnProofStepsUptoRow.holds Try.pinned (OpenSpec.upto fnProofStepsSpec)

/-- 'laws.FnProofStepsCost', WHERE WHAT IT READS IS OF BULK AT MOST 1048576: true; the input reads as it did. -/
def fnProofStepsCostUptoRow : OpenClaim := { program := "ytekchmbbafjmmaa", sum := "1db543410f92d5e41af93ccb36cb12a6d46bec746bc93cc6c7b24e6ba5e35534", func := "loop.example/braille/laws.FnProofStepsCost", spec := "fnProofStepsCost", apart := false, narrowed := true }
def FnProofStepsCostUptoSaid : Prop := fnProofStepsCostUptoRow.holds Try.pinned (OpenSpec.upto fnProofStepsCostSpec)

/-- 'laws.FnFixFaults', WHERE WHAT IT READS IS OF BULK AT MOST 1048576: true; the input reads as it did. -/
def fnFixFaultsUptoRow : OpenClaim := { program := "ytekchmbbafjmmaa", sum := "1db543410f92d5e41af93ccb36cb12a6d46bec746bc93cc6c7b24e6ba5e35534", func := "loop.example/braille/laws.FnFixFaults", spec := "fnFixFaults", apart := false, narrowed := true }
def FnFixFaultsUptoSaid : Prop := fnFixFaultsUptoRow.holds Try.pinned (OpenSpec.upto fnFixFaultsSpec)

/-- 'laws.FnFixFaultsCount', WHERE WHAT IT READS IS OF BULK AT MOST 1048576: true; the input reads as it did. -/
def fnFixFaultsCountUptoRow : OpenClaim := { program := "ytekchmbbafjmmaa", sum := "1db543410f92d5e41af93ccb36cb12a6d46bec746bc93cc6c7b24e6ba5e35534", func := "loop.example/braille/laws.FnFixFaultsCount", spec := "fnFixFaultsCount", apart := false, narrowed := true }
def FnFixFaultsCountUptoSaid : Prop := fnFixFaultsCountUptoRow.holds Try.pinned (OpenSpec.upto fnFixFaultsCountSpec)

/-- 'laws.FnExactKindOf', WHERE WHAT IT READS IS OF BULK AT MOST 1048576: true; the input reads as it did. -/
def fnExactKindOfUptoRow : OpenClaim := { program := "ytekchmbbafjmmaa", sum := "1db543410f92d5e41af93ccb36cb12a6d46bec746bc93cc6c7b24e6ba5e35534", func := "loop.example/braille/laws.FnExactKindOf", spec := "fnExactKindOf", apart := false, narrowed := true }
def FnExactKindOfUptoSaid : Prop := fnExactKindOfUptoRow.holds Try.pinned (OpenSpec.upto fnExactKindOfSpec)

/-- 'laws.FnExactProofCost', WHERE WHAT IT READS IS OF BULK AT MOST 1048576: true; the input reads as it did. -/
def fnExactProofCostUptoRow : OpenClaim := { program := "ytekchmbbafjmmaa", sum := "1db543410f92d5e41af93ccb36cb12a6d46bec746bc93cc6c7b24e6ba5e35534", func := "loop.example/braille/laws.FnExactProofCost", spec := "fnExactProofCost", apart := false, narrowed := true }
def FnExactProofCostUptoSaid : Prop := fnExactProofCostUptoRow.holds Try.pinned (OpenSpec.upto fnExactProofCostSpec)

/-- 'laws.FnExactProofSteps', WHERE WHAT IT READS IS OF BULK AT MOST 1048576: true; the input reads as it did. -/
def fnExactProofStepsUptoRow : OpenClaim := { program := "ytekchmbbafjmmaa", sum := "1db543410f92d5e41af93ccb36cb12a6d46bec746bc93cc6c7b24e6ba5e35534", func := "loop.example/braille/laws.FnExactProofSteps", spec := "fnExactProofSteps", apart := false, narrowed := true }
def FnExactProofStepsUptoSaid : Prop := fnExactProofStepsUptoRow.holds Try.pinned (OpenSpec.upto fnExactProofStepsSpec)

/-- 'laws.FnExactFixFaults', WHERE WHAT IT READS IS OF BULK AT MOST 1048576: true; the input reads as it did. -/
def fnExactFixFaultsUptoRow : OpenClaim := { program := "ytekchmbbafjmmaa", sum := "1db543410f92d5e41af93ccb36cb12a6d46bec746bc93cc6c7b24e6ba5e35534", func := "loop.example/braille/laws.FnExactFixFaults", spec := "fnExactFixFaults", apart := false, narrowed := true }
def FnExactFixFaultsUptoSaid : Prop := fnExactFixFaultsUptoRow.holds Try.pinned (OpenSpec.upto fnExactFixFaultsSpec)

end Rows
end Go.Proofs.Ytekchmbbafjmmaa
