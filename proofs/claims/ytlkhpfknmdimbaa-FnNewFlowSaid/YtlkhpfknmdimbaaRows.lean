/-
  No cell of these rows narrows 'for every input' (looked for: loops, veiled, ifaces, maps, wideKeys, modest, calm, conditions, laid).
  DERIVED. THE GIVEN ROWS OF THIS SEAT. 15 by the template 'for every input the law returns true; each argument reads behind the call as it read before'; 0 by the template 'total and deterministic' (their statements: YtlkhpfknmdimbaaTotals.lean).
  GIVEN WITH THE SEED: the statements are not yours to turn. If you find one false, say at which input.
  Laid BY PROGRAM, IN A SANDBOX (cutbox-rows.mjs): the forced cells as the released guide's own fill.sh prints them over the translation 92c23500f4c1fd86… (all of the seat's roots in one cut). By AI agents, Wed Nov 11 2026. No macro, syntax, notation, axiom, sorry.
-/
import Derived.Test.YtlkhpfknmdimbaaChecked
import GoSem.Claim
import GoSem.ClaimJoined
import GoSem.ClaimMapViews
import Derived.JoinedTies
import Derived.KernelRfl
namespace Go.Proofs.Ytlkhpfknmdimbaa
/- THE CELL 'sum', in the pinned program and in every row, IS THE sha256 OF THE DUMP (.gsa) THAT YtlkhpfknmdimbaaProg.lean LOADS. Nothing in Lean hashes anything: it is a label: what it is worth is what the hold of that sum in a sandbox is worth. -/
noncomputable def Try.pinned : Pinned := { name := "ytlkhpfknmdimbaa", sum := "92c23500f4c1fd8676da0a57cf49acb10dc960211054ca02aabd929191edd76b", checked := Try.checked }
namespace Rows
def none {H : Type} : Left H := { results := [], args := [] }

/-- 'laws.FnValidFlow': WHATEVER THE INPUT: true; the input reads as it did. -/
def fnValidFlowSpec : ChangeSpec := { name := "fnValidFlow", fn := fun _ => fun
  | [d] => { results := [.lit (.bool true)], args := [d] }
  | _ => none }
def fnValidFlowRow : OpenClaim := { program := "ytlkhpfknmdimbaa", sum := "92c23500f4c1fd8676da0a57cf49acb10dc960211054ca02aabd929191edd76b", func := "loop.example/braille/laws.FnValidFlow", spec := "fnValidFlow", apart := false }
def FnValidFlowSaid : Prop := fnValidFlowRow.holds Try.pinned (OpenSpec.ofChange fnValidFlowSpec)

/-- ITS FALSE NEIGHBOUR: 'it returns false'. Refute it at one input. -/
def fnValidFlowWrong : ChangeSpec := { name := "fnValidFlow", fn := fun _ => fun
  | [d] => { results := [.lit (.bool false)], args := [d] }
  | _ => none }
def FnValidFlowWrongFalsely : Prop := fnValidFlowRow.holds Try.pinned (OpenSpec.ofChange fnValidFlowWrong)

/-- 'laws.FnNewFlow': WHATEVER THE INPUT: true; the input reads as it did. -/
def fnNewFlowSpec : ChangeSpec := { name := "fnNewFlow", fn := fun _ => fun
  | [d] => { results := [.lit (.bool true)], args := [d] }
  | _ => none }
def fnNewFlowRow : OpenClaim := { program := "ytlkhpfknmdimbaa", sum := "92c23500f4c1fd8676da0a57cf49acb10dc960211054ca02aabd929191edd76b", func := "loop.example/braille/laws.FnNewFlow", spec := "fnNewFlow", apart := false }
def FnNewFlowSaid : Prop := fnNewFlowRow.holds Try.pinned (OpenSpec.ofChange fnNewFlowSpec)

/-- ITS FALSE NEIGHBOUR: 'it returns false'. Refute it at one input. -/
def fnNewFlowWrong : ChangeSpec := { name := "fnNewFlow", fn := fun _ => fun
  | [d] => { results := [.lit (.bool false)], args := [d] }
  | _ => none }
def FnNewFlowWrongFalsely : Prop := fnNewFlowRow.holds Try.pinned (OpenSpec.ofChange fnNewFlowWrong)

/-- 'laws.FnNewFlowSafe': WHATEVER THE INPUT: true; the input reads as it did. -/
def fnNewFlowSafeSpec : ChangeSpec := { name := "fnNewFlowSafe", fn := fun _ => fun
  | [d] => { results := [.lit (.bool true)], args := [d] }
  | _ => none }
def fnNewFlowSafeRow : OpenClaim := { program := "ytlkhpfknmdimbaa", sum := "92c23500f4c1fd8676da0a57cf49acb10dc960211054ca02aabd929191edd76b", func := "loop.example/braille/laws.FnNewFlowSafe", spec := "fnNewFlowSafe", apart := false }
def FnNewFlowSafeSaid : Prop := fnNewFlowSafeRow.holds Try.pinned (OpenSpec.ofChange fnNewFlowSafeSpec)

/-- ITS FALSE NEIGHBOUR: 'it returns false'. Refute it at one input. -/
def fnNewFlowSafeWrong : ChangeSpec := { name := "fnNewFlowSafe", fn := fun _ => fun
  | [d] => { results := [.lit (.bool false)], args := [d] }
  | _ => none }
def FnNewFlowSafeWrongFalsely : Prop := fnNewFlowSafeRow.holds Try.pinned (OpenSpec.ofChange fnNewFlowSafeWrong)

/-- 'laws.FnNewFlowDone': WHATEVER THE INPUT: true; the input reads as it did. -/
def fnNewFlowDoneSpec : ChangeSpec := { name := "fnNewFlowDone", fn := fun _ => fun
  | [d] => { results := [.lit (.bool true)], args := [d] }
  | _ => none }
def fnNewFlowDoneRow : OpenClaim := { program := "ytlkhpfknmdimbaa", sum := "92c23500f4c1fd8676da0a57cf49acb10dc960211054ca02aabd929191edd76b", func := "loop.example/braille/laws.FnNewFlowDone", spec := "fnNewFlowDone", apart := false }
def FnNewFlowDoneSaid : Prop := fnNewFlowDoneRow.holds Try.pinned (OpenSpec.ofChange fnNewFlowDoneSpec)

/-- ITS FALSE NEIGHBOUR: 'it returns false'. Refute it at one input. -/
def fnNewFlowDoneWrong : ChangeSpec := { name := "fnNewFlowDone", fn := fun _ => fun
  | [d] => { results := [.lit (.bool false)], args := [d] }
  | _ => none }
def FnNewFlowDoneWrongFalsely : Prop := fnNewFlowDoneRow.holds Try.pinned (OpenSpec.ofChange fnNewFlowDoneWrong)

/-- 'laws.FnNewFlowPace': WHATEVER THE INPUT: true; the input reads as it did. -/
def fnNewFlowPaceSpec : ChangeSpec := { name := "fnNewFlowPace", fn := fun _ => fun
  | [d] => { results := [.lit (.bool true)], args := [d] }
  | _ => none }
def fnNewFlowPaceRow : OpenClaim := { program := "ytlkhpfknmdimbaa", sum := "92c23500f4c1fd8676da0a57cf49acb10dc960211054ca02aabd929191edd76b", func := "loop.example/braille/laws.FnNewFlowPace", spec := "fnNewFlowPace", apart := false }
def FnNewFlowPaceSaid : Prop := fnNewFlowPaceRow.holds Try.pinned (OpenSpec.ofChange fnNewFlowPaceSpec)

/-- ITS FALSE NEIGHBOUR: 'it returns false'. Refute it at one input. -/
def fnNewFlowPaceWrong : ChangeSpec := { name := "fnNewFlowPace", fn := fun _ => fun
  | [d] => { results := [.lit (.bool false)], args := [d] }
  | _ => none }
def FnNewFlowPaceWrongFalsely : Prop := fnNewFlowPaceRow.holds Try.pinned (OpenSpec.ofChange fnNewFlowPaceWrong)

/-- 'laws.FnRunFlow': WHATEVER THE INPUT: true; the input reads as it did. -/
def fnRunFlowSpec : ChangeSpec := { name := "fnRunFlow", fn := fun _ => fun
  | [d] => { results := [.lit (.bool true)], args := [d] }
  | _ => none }
def fnRunFlowRow : OpenClaim := { program := "ytlkhpfknmdimbaa", sum := "92c23500f4c1fd8676da0a57cf49acb10dc960211054ca02aabd929191edd76b", func := "loop.example/braille/laws.FnRunFlow", spec := "fnRunFlow", apart := false }
def FnRunFlowSaid : Prop := fnRunFlowRow.holds Try.pinned (OpenSpec.ofChange fnRunFlowSpec)

/-- ITS FALSE NEIGHBOUR: 'it returns false'. Refute it at one input. -/
def fnRunFlowWrong : ChangeSpec := { name := "fnRunFlow", fn := fun _ => fun
  | [d] => { results := [.lit (.bool false)], args := [d] }
  | _ => none }
def FnRunFlowWrongFalsely : Prop := fnRunFlowRow.holds Try.pinned (OpenSpec.ofChange fnRunFlowWrong)

/-- 'laws.FnRunFlowTwice': WHATEVER THE INPUT: true; the input reads as it did. -/
def fnRunFlowTwiceSpec : ChangeSpec := { name := "fnRunFlowTwice", fn := fun _ => fun
  | [d] => { results := [.lit (.bool true)], args := [d] }
  | _ => none }
def fnRunFlowTwiceRow : OpenClaim := { program := "ytlkhpfknmdimbaa", sum := "92c23500f4c1fd8676da0a57cf49acb10dc960211054ca02aabd929191edd76b", func := "loop.example/braille/laws.FnRunFlowTwice", spec := "fnRunFlowTwice", apart := false }
def FnRunFlowTwiceSaid : Prop := fnRunFlowTwiceRow.holds Try.pinned (OpenSpec.ofChange fnRunFlowTwiceSpec)

/-- ITS FALSE NEIGHBOUR: 'it returns false'. Refute it at one input. -/
def fnRunFlowTwiceWrong : ChangeSpec := { name := "fnRunFlowTwice", fn := fun _ => fun
  | [d] => { results := [.lit (.bool false)], args := [d] }
  | _ => none }
def FnRunFlowTwiceWrongFalsely : Prop := fnRunFlowTwiceRow.holds Try.pinned (OpenSpec.ofChange fnRunFlowTwiceWrong)

/-- 'laws.FnRunFlowForward': WHATEVER THE INPUT: true; the input reads as it did. -/
def fnRunFlowForwardSpec : ChangeSpec := { name := "fnRunFlowForward", fn := fun _ => fun
  | [d] => { results := [.lit (.bool true)], args := [d] }
  | _ => none }
def fnRunFlowForwardRow : OpenClaim := { program := "ytlkhpfknmdimbaa", sum := "92c23500f4c1fd8676da0a57cf49acb10dc960211054ca02aabd929191edd76b", func := "loop.example/braille/laws.FnRunFlowForward", spec := "fnRunFlowForward", apart := false }
def FnRunFlowForwardSaid : Prop := fnRunFlowForwardRow.holds Try.pinned (OpenSpec.ofChange fnRunFlowForwardSpec)

/-- ITS FALSE NEIGHBOUR: 'it returns false'. Refute it at one input. -/
def fnRunFlowForwardWrong : ChangeSpec := { name := "fnRunFlowForward", fn := fun _ => fun
  | [d] => { results := [.lit (.bool false)], args := [d] }
  | _ => none }
def FnRunFlowForwardWrongFalsely : Prop := fnRunFlowForwardRow.holds Try.pinned (OpenSpec.ofChange fnRunFlowForwardWrong)

/-- 'laws.FnIsSafe': WHATEVER THE INPUT: true; the input reads as it did. -/
def fnIsSafeSpec : ChangeSpec := { name := "fnIsSafe", fn := fun _ => fun
  | [d] => { results := [.lit (.bool true)], args := [d] }
  | _ => none }
def fnIsSafeRow : OpenClaim := { program := "ytlkhpfknmdimbaa", sum := "92c23500f4c1fd8676da0a57cf49acb10dc960211054ca02aabd929191edd76b", func := "loop.example/braille/laws.FnIsSafe", spec := "fnIsSafe", apart := false }
def FnIsSafeSaid : Prop := fnIsSafeRow.holds Try.pinned (OpenSpec.ofChange fnIsSafeSpec)

/-- ITS FALSE NEIGHBOUR: 'it returns false'. Refute it at one input. -/
def fnIsSafeWrong : ChangeSpec := { name := "fnIsSafe", fn := fun _ => fun
  | [d] => { results := [.lit (.bool false)], args := [d] }
  | _ => none }
def FnIsSafeWrongFalsely : Prop := fnIsSafeRow.holds Try.pinned (OpenSpec.ofChange fnIsSafeWrong)

/-- 'laws.FnIsDone': WHATEVER THE INPUT: true; the input reads as it did. -/
def fnIsDoneSpec : ChangeSpec := { name := "fnIsDone", fn := fun _ => fun
  | [d] => { results := [.lit (.bool true)], args := [d] }
  | _ => none }
def fnIsDoneRow : OpenClaim := { program := "ytlkhpfknmdimbaa", sum := "92c23500f4c1fd8676da0a57cf49acb10dc960211054ca02aabd929191edd76b", func := "loop.example/braille/laws.FnIsDone", spec := "fnIsDone", apart := false }
def FnIsDoneSaid : Prop := fnIsDoneRow.holds Try.pinned (OpenSpec.ofChange fnIsDoneSpec)

/-- ITS FALSE NEIGHBOUR: 'it returns false'. Refute it at one input. -/
def fnIsDoneWrong : ChangeSpec := { name := "fnIsDone", fn := fun _ => fun
  | [d] => { results := [.lit (.bool false)], args := [d] }
  | _ => none }
def FnIsDoneWrongFalsely : Prop := fnIsDoneRow.holds Try.pinned (OpenSpec.ofChange fnIsDoneWrong)

/-- 'laws.FnExactValidFlow': WHATEVER THE INPUT: true; the input reads as it did. -/
def fnExactValidFlowSpec : ChangeSpec := { name := "fnExactValidFlow", fn := fun _ => fun
  | [d] => { results := [.lit (.bool true)], args := [d] }
  | _ => none }
def fnExactValidFlowRow : OpenClaim := { program := "ytlkhpfknmdimbaa", sum := "92c23500f4c1fd8676da0a57cf49acb10dc960211054ca02aabd929191edd76b", func := "loop.example/braille/laws.FnExactValidFlow", spec := "fnExactValidFlow", apart := false }
def FnExactValidFlowSaid : Prop := fnExactValidFlowRow.holds Try.pinned (OpenSpec.ofChange fnExactValidFlowSpec)

/-- ITS FALSE NEIGHBOUR: 'it returns false'. Refute it at one input. -/
def fnExactValidFlowWrong : ChangeSpec := { name := "fnExactValidFlow", fn := fun _ => fun
  | [d] => { results := [.lit (.bool false)], args := [d] }
  | _ => none }
def FnExactValidFlowWrongFalsely : Prop := fnExactValidFlowRow.holds Try.pinned (OpenSpec.ofChange fnExactValidFlowWrong)

/-- 'laws.FnExactNewFlow': WHATEVER THE INPUT: true; the input reads as it did. -/
def fnExactNewFlowSpec : ChangeSpec := { name := "fnExactNewFlow", fn := fun _ => fun
  | [d1, d2, d3, d4, d5, d6] => { results := [.lit (.bool true)], args := [d1, d2, d3, d4, d5, d6] }
  | _ => none }
def fnExactNewFlowRow : OpenClaim := { program := "ytlkhpfknmdimbaa", sum := "92c23500f4c1fd8676da0a57cf49acb10dc960211054ca02aabd929191edd76b", func := "loop.example/braille/laws.FnExactNewFlow", spec := "fnExactNewFlow", apart := false }
def FnExactNewFlowSaid : Prop := fnExactNewFlowRow.holds Try.pinned (OpenSpec.ofChange fnExactNewFlowSpec)

/-- ITS FALSE NEIGHBOUR: 'it returns false'. Refute it at one input. -/
def fnExactNewFlowWrong : ChangeSpec := { name := "fnExactNewFlow", fn := fun _ => fun
  | [d1, d2, d3, d4, d5, d6] => { results := [.lit (.bool false)], args := [d1, d2, d3, d4, d5, d6] }
  | _ => none }
def FnExactNewFlowWrongFalsely : Prop := fnExactNewFlowRow.holds Try.pinned (OpenSpec.ofChange fnExactNewFlowWrong)

/-- 'laws.FnExactRunFlow': WHATEVER THE INPUT: true; the input reads as it did. -/
def fnExactRunFlowSpec : ChangeSpec := { name := "fnExactRunFlow", fn := fun _ => fun
  | [d1, d2] => { results := [.lit (.bool true)], args := [d1, d2] }
  | _ => none }
def fnExactRunFlowRow : OpenClaim := { program := "ytlkhpfknmdimbaa", sum := "92c23500f4c1fd8676da0a57cf49acb10dc960211054ca02aabd929191edd76b", func := "loop.example/braille/laws.FnExactRunFlow", spec := "fnExactRunFlow", apart := false }
def FnExactRunFlowSaid : Prop := fnExactRunFlowRow.holds Try.pinned (OpenSpec.ofChange fnExactRunFlowSpec)

/-- ITS FALSE NEIGHBOUR: 'it returns false'. Refute it at one input. -/
def fnExactRunFlowWrong : ChangeSpec := { name := "fnExactRunFlow", fn := fun _ => fun
  | [d1, d2] => { results := [.lit (.bool false)], args := [d1, d2] }
  | _ => none }
def FnExactRunFlowWrongFalsely : Prop := fnExactRunFlowRow.holds Try.pinned (OpenSpec.ofChange fnExactRunFlowWrong)

/-- 'laws.FnExactIsSafe': WHATEVER THE INPUT: true; the input reads as it did. -/
def fnExactIsSafeSpec : ChangeSpec := { name := "fnExactIsSafe", fn := fun _ => fun
  | [d] => { results := [.lit (.bool true)], args := [d] }
  | _ => none }
def fnExactIsSafeRow : OpenClaim := { program := "ytlkhpfknmdimbaa", sum := "92c23500f4c1fd8676da0a57cf49acb10dc960211054ca02aabd929191edd76b", func := "loop.example/braille/laws.FnExactIsSafe", spec := "fnExactIsSafe", apart := false }
def FnExactIsSafeSaid : Prop := fnExactIsSafeRow.holds Try.pinned (OpenSpec.ofChange fnExactIsSafeSpec)

/-- ITS FALSE NEIGHBOUR: 'it returns false'. Refute it at one input. -/
def fnExactIsSafeWrong : ChangeSpec := { name := "fnExactIsSafe", fn := fun _ => fun
  | [d] => { results := [.lit (.bool false)], args := [d] }
  | _ => none }
def FnExactIsSafeWrongFalsely : Prop := fnExactIsSafeRow.holds Try.pinned (OpenSpec.ofChange fnExactIsSafeWrong)

/-- 'laws.FnExactIsDone': WHATEVER THE INPUT: true; the input reads as it did. -/
def fnExactIsDoneSpec : ChangeSpec := { name := "fnExactIsDone", fn := fun _ => fun
  | [d] => { results := [.lit (.bool true)], args := [d] }
  | _ => none }
def fnExactIsDoneRow : OpenClaim := { program := "ytlkhpfknmdimbaa", sum := "92c23500f4c1fd8676da0a57cf49acb10dc960211054ca02aabd929191edd76b", func := "loop.example/braille/laws.FnExactIsDone", spec := "fnExactIsDone", apart := false }
def FnExactIsDoneSaid : Prop := fnExactIsDoneRow.holds Try.pinned (OpenSpec.ofChange fnExactIsDoneSpec)

/-- ITS FALSE NEIGHBOUR: 'it returns false'. Refute it at one input. -/
def fnExactIsDoneWrong : ChangeSpec := { name := "fnExactIsDone", fn := fun _ => fun
  | [d] => { results := [.lit (.bool false)], args := [d] }
  | _ => none }
def FnExactIsDoneWrongFalsely : Prop := fnExactIsDoneRow.holds Try.pinned (OpenSpec.ofChange fnExactIsDoneWrong)

/- THE SECOND FORM. 'bulk': how many values and letters a reading holds, each counted each time it is reached (what is shared counts as often as it is met; a slice's spare places count too). A statement '..UptoSaid' is the law's where the arguments, and the package variables that the reading takes, are together of bulk at most 1048576: NARROWER than '..Said'. Prove '..Said' where nothing that the law and all that it calls make is longer than what came in: it says more and counts as full. Else prove '..UptoSaid'. A law counts once. -/
mutual
def uptoBulk {H : Type} : DataW H → Nat
  | .lit (.string bytes) => bytes.length + 1
  | .lit _ => 1
  | .nil => 1
  | .ptr d => uptoBulk d + 1
  | .slice elems spare => uptoBulkAll elems + uptoBulkAll spare + 1
  | .agg parts => uptoBulkAll parts + 1
  | .iface _ d => uptoBulk d + 1
  | .map entries => uptoBulkEntries entries + 1
  | .held _ => 1
def uptoBulkAll {H : Type} : List (DataW H) → Nat
  | [] => 0
  | d :: r => uptoBulk d + uptoBulkAll r
def uptoBulkEntries {H : Type} : List (Lit × DataW H) → Nat
  | [] => 0
  | x :: r => uptoBulkEntry x + uptoBulkEntries r
def uptoBulkEntry {H : Type} : Lit × DataW H → Nat
  | (.string bytes, d) => bytes.length + uptoBulk d + 1
  | (_, d) => uptoBulk d + 1
 end
def uptoSmall : (H : Type) → List (DataW H) → Bool := fun _ ds => decide (uptoBulkAll ds ≤ 1048576)
def OpenSpec.upto (s : _root_.Go.ChangeSpec) : _root_.Go.OpenSpec := { _root_.Go.OpenSpec.ofChange s with cond := some uptoSmall }

/-- 'laws.FnValidFlow', WHERE WHAT IT READS IS OF BULK AT MOST 1048576: true; the input reads as it did. -/
def fnValidFlowUptoRow : OpenClaim := { program := "ytlkhpfknmdimbaa", sum := "92c23500f4c1fd8676da0a57cf49acb10dc960211054ca02aabd929191edd76b", func := "loop.example/braille/laws.FnValidFlow", spec := "fnValidFlow", apart := false, narrowed := true }
def FnValidFlowUptoSaid : Prop := fnValidFlowUptoRow.holds Try.pinned (OpenSpec.upto fnValidFlowSpec)

/-- 'laws.FnNewFlow', WHERE WHAT IT READS IS OF BULK AT MOST 1048576: true; the input reads as it did. -/
def fnNewFlowUptoRow : OpenClaim := { program := "ytlkhpfknmdimbaa", sum := "92c23500f4c1fd8676da0a57cf49acb10dc960211054ca02aabd929191edd76b", func := "loop.example/braille/laws.FnNewFlow", spec := "fnNewFlow", apart := false, narrowed := true }
def FnNewFlowUptoSaid : Prop := fnNewFlowUptoRow.holds Try.pinned (OpenSpec.upto fnNewFlowSpec)

/-- 'laws.FnNewFlowSafe', WHERE WHAT IT READS IS OF BULK AT MOST 1048576: true; the input reads as it did. -/
def fnNewFlowSafeUptoRow : OpenClaim := { program := "ytlkhpfknmdimbaa", sum := "92c23500f4c1fd8676da0a57cf49acb10dc960211054ca02aabd929191edd76b", func := "loop.example/braille/laws.FnNewFlowSafe", spec := "fnNewFlowSafe", apart := false, narrowed := true }
def FnNewFlowSafeUptoSaid : Prop := fnNewFlowSafeUptoRow.holds Try.pinned (OpenSpec.upto fnNewFlowSafeSpec)

/-- 'laws.FnNewFlowDone', WHERE WHAT IT READS IS OF BULK AT MOST 1048576: true; the input reads as it did. -/
def fnNewFlowDoneUptoRow : OpenClaim := { program := "ytlkhpfknmdimbaa", sum := "92c23500f4c1fd8676da0a57cf49acb10dc960211054ca02aabd929191edd76b", func := "loop.example/braille/laws.FnNewFlowDone", spec := "fnNewFlowDone", apart := false, narrowed := true }
def FnNewFlowDoneUptoSaid : Prop := fnNewFlowDoneUptoRow.holds Try.pinned (OpenSpec.upto fnNewFlowDoneSpec)

/-- 'laws.FnNewFlowPace', WHERE WHAT IT READS IS OF BULK AT MOST 1048576: true; the input reads as it did. -/
def fnNewFlowPaceUptoRow : OpenClaim := { program := "ytlkhpfknmdimbaa", sum := "92c23500f4c1fd8676da0a57cf49acb10dc960211054ca02aabd929191edd76b", func := "loop.example/braille/laws.FnNewFlowPace", spec := "fnNewFlowPace", apart := false, narrowed := true }
def FnNewFlowPaceUptoSaid : Prop := fnNewFlowPaceUptoRow.holds Try.pinned (OpenSpec.upto fnNewFlowPaceSpec)

/-- 'laws.FnRunFlow', WHERE WHAT IT READS IS OF BULK AT MOST 1048576: true; the input reads as it did. -/
def fnRunFlowUptoRow : OpenClaim := { program := "ytlkhpfknmdimbaa", sum := "92c23500f4c1fd8676da0a57cf49acb10dc960211054ca02aabd929191edd76b", func := "loop.example/braille/laws.FnRunFlow", spec := "fnRunFlow", apart := false, narrowed := true }
def FnRunFlowUptoSaid : Prop := fnRunFlowUptoRow.holds Try.pinned (OpenSpec.upto fnRunFlowSpec)

/-- 'laws.FnRunFlowTwice', WHERE WHAT IT READS IS OF BULK AT MOST 1048576: true; the input reads as it did. -/
def fnRunFlowTwiceUptoRow : OpenClaim := { program := "ytlkhpfknmdimbaa", sum := "92c23500f4c1fd8676da0a57cf49acb10dc960211054ca02aabd929191edd76b", func := "loop.example/braille/laws.FnRunFlowTwice", spec := "fnRunFlowTwice", apart := false, narrowed := true }
def FnRunFlowTwiceUptoSaid : Prop := fnRunFlowTwiceUptoRow.holds Try.pinned (OpenSpec.upto fnRunFlowTwiceSpec)

/-- 'laws.FnRunFlowForward', WHERE WHAT IT READS IS OF BULK AT MOST 1048576: true; the input reads as it did. -/
def fnRunFlowForwardUptoRow : OpenClaim := { program := "ytlkhpfknmdimbaa", sum := "92c23500f4c1fd8676da0a57cf49acb10dc960211054ca02aabd929191edd76b", func := "loop.example/braille/laws.FnRunFlowForward", spec := "fnRunFlowForward", apart := false, narrowed := true }
def FnRunFlowForwardUptoSaid : Prop := fnRunFlowForwardUptoRow.holds Try.pinned (OpenSpec.upto fnRunFlowForwardSpec)

/-- 'laws.FnIsSafe', WHERE WHAT IT READS IS OF BULK AT MOST 1048576: true; the input reads as it did. -/
def fnIsSafeUptoRow : OpenClaim := { program := "ytlkhpfknmdimbaa", sum := "92c23500f4c1fd8676da0a57cf49acb10dc960211054ca02aabd929191edd76b", func := "loop.example/braille/laws.FnIsSafe", spec := "fnIsSafe", apart := false, narrowed := true }
def FnIsSafeUptoSaid : Prop := fnIsSafeUptoRow.holds Try.pinned (OpenSpec.upto fnIsSafeSpec)

/-- 'laws.FnIsDone', WHERE WHAT IT READS IS OF BULK AT MOST 1048576: true; the input reads as it did. -/
def fnIsDoneUptoRow : OpenClaim := { program := "ytlkhpfknmdimbaa", sum := "92c23500f4c1fd8676da0a57cf49acb10dc960211054ca02aabd929191edd76b", func := "loop.example/braille/laws.FnIsDone", spec := "fnIsDone", apart := false, narrowed := true }
def FnIsDoneUptoSaid : Prop := fnIsDoneUptoRow.holds Try.pinned (OpenSpec.upto fnIsDoneSpec)

/-- 'laws.FnExactValidFlow', WHERE WHAT IT READS IS OF BULK AT MOST 1048576: true; the input reads as it did. -/
def fnExactValidFlowUptoRow : OpenClaim := { program := "ytlkhpfknmdimbaa", sum := "92c23500f4c1fd8676da0a57cf49acb10dc960211054ca02aabd929191edd76b", func := "loop.example/braille/laws.FnExactValidFlow", spec := "fnExactValidFlow", apart := false, narrowed := true }
def FnExactValidFlowUptoSaid : Prop := fnExactValidFlowUptoRow.holds Try.pinned (OpenSpec.upto fnExactValidFlowSpec)

/-- 'laws.FnExactNewFlow', WHERE WHAT IT READS IS OF BULK AT MOST 1048576: true; the input reads as it did. -/
def fnExactNewFlowUptoRow : OpenClaim := { program := "ytlkhpfknmdimbaa", sum := "92c23500f4c1fd8676da0a57cf49acb10dc960211054ca02aabd929191edd76b", func := "loop.example/braille/laws.FnExactNewFlow", spec := "fnExactNewFlow", apart := false, narrowed := true }
def FnExactNewFlowUptoSaid : Prop := fnExactNewFlowUptoRow.holds Try.pinned (OpenSpec.upto fnExactNewFlowSpec)

/-- 'laws.FnExactRunFlow', WHERE WHAT IT READS IS OF BULK AT MOST 1048576: true; the input reads as it did. -/
def fnExactRunFlowUptoRow : OpenClaim := { program := "ytlkhpfknmdimbaa", sum := "92c23500f4c1fd8676da0a57cf49acb10dc960211054ca02aabd929191edd76b", func := "loop.example/braille/laws.FnExactRunFlow", spec := "fnExactRunFlow", apart := false, narrowed := true }
def FnExactRunFlowUptoSaid : Prop := fnExactRunFlowUptoRow.holds Try.pinned (OpenSpec.upto fnExactRunFlowSpec)

/-- 'laws.FnExactIsSafe', WHERE WHAT IT READS IS OF BULK AT MOST 1048576: true; the input reads as it did. -/
def fnExactIsSafeUptoRow : OpenClaim := { program := "ytlkhpfknmdimbaa", sum := "92c23500f4c1fd8676da0a57cf49acb10dc960211054ca02aabd929191edd76b", func := "loop.example/braille/laws.FnExactIsSafe", spec := "fnExactIsSafe", apart := false, narrowed := true }
def FnExactIsSafeUptoSaid : Prop := fnExactIsSafeUptoRow.holds Try.pinned (OpenSpec.upto fnExactIsSafeSpec)

/-- 'laws.FnExactIsDone', WHERE WHAT IT READS IS OF BULK AT MOST 1048576: true; the input reads as it did. -/
def fnExactIsDoneUptoRow : OpenClaim := { program := "ytlkhpfknmdimbaa", sum := "92c23500f4c1fd8676da0a57cf49acb10dc960211054ca02aabd929191edd76b", func := "loop.example/braille/laws.FnExactIsDone", spec := "fnExactIsDone", apart := false, narrowed := true }
def FnExactIsDoneUptoSaid : Prop := fnExactIsDoneUptoRow.holds Try.pinned (OpenSpec.upto fnExactIsDoneSpec)

end Rows
end Go.Proofs.Ytlkhpfknmdimbaa
