/-
  No cell of these rows narrows 'for every input' (looked for: loops, veiled, ifaces, maps, wideKeys, modest, calm, conditions, laid).
  DERIVED. THE GIVEN ROWS OF THIS SEAT. 10 by the template 'for every input the law returns true; each argument reads behind the call as it read before'; 0 by the template 'total and deterministic' (their statements: YtpohkeenfbaklaaTotals.lean).
  GIVEN WITH THE SEED: the statements are not yours to turn. If you find one false, say at which input.
  Laid BY PROGRAM, IN A SANDBOX (cutbox-rows.mjs): the forced cells as the released guide's own fill.sh prints them over the translation 2312abd5391f7c08… (all of the seat's roots in one cut). By AI agents, Wed Nov 11 2026. No macro, syntax, notation, axiom, sorry.
-/
import Derived.Test.YtpohkeenfbaklaaChecked
import GoSem.Claim
import GoSem.ClaimJoined
import GoSem.ClaimMapViews
import Derived.JoinedTies
import Derived.KernelRfl
namespace Go.Proofs.Ytpohkeenfbaklaa
/- THE CELL 'sum', in the pinned program and in every row, IS THE sha256 OF THE DUMP (.gsa) THAT YtpohkeenfbaklaaProg.lean LOADS. Nothing in Lean hashes anything: it is a label: what it is worth is what the hold of that sum in a sandbox is worth. -/
noncomputable def Try.pinned : Pinned := { name := "ytpohkeenfbaklaa", sum := "2312abd5391f7c08958ebd63965a0623eb69db7703f35f852afe2bd4b32fbe18", checked := Try.checked }
namespace Rows
def none {H : Type} : Left H := { results := [], args := [] }

/-- 'laws.FnValidPatterns': WHATEVER THE INPUT: true; the input reads as it did. -/
def fnValidPatternsSpec : ChangeSpec := { name := "fnValidPatterns", fn := fun _ => fun
  | [d] => { results := [.lit (.bool true)], args := [d] }
  | _ => none }
def fnValidPatternsRow : OpenClaim := { program := "ytpohkeenfbaklaa", sum := "2312abd5391f7c08958ebd63965a0623eb69db7703f35f852afe2bd4b32fbe18", func := "loop.example/braille/laws.FnValidPatterns", spec := "fnValidPatterns", apart := false }
def FnValidPatternsSaid : Prop := fnValidPatternsRow.holds Try.pinned (OpenSpec.ofChange fnValidPatternsSpec)

/-- ITS FALSE NEIGHBOUR: 'it returns false'. Refute it at one input. -/
def fnValidPatternsWrong : ChangeSpec := { name := "fnValidPatterns", fn := fun _ => fun
  | [d] => { results := [.lit (.bool false)], args := [d] }
  | _ => none }
def FnValidPatternsWrongFalsely : Prop := fnValidPatternsRow.holds Try.pinned (OpenSpec.ofChange fnValidPatternsWrong)

/-- 'laws.FnHyphenLevels': WHATEVER THE INPUT: true; the input reads as it did. -/
def fnHyphenLevelsSpec : ChangeSpec := { name := "fnHyphenLevels", fn := fun _ => fun
  | [d] => { results := [.lit (.bool true)], args := [d] }
  | _ => none }
def fnHyphenLevelsRow : OpenClaim := { program := "ytpohkeenfbaklaa", sum := "2312abd5391f7c08958ebd63965a0623eb69db7703f35f852afe2bd4b32fbe18", func := "loop.example/braille/laws.FnHyphenLevels", spec := "fnHyphenLevels", apart := false }
def FnHyphenLevelsSaid : Prop := fnHyphenLevelsRow.holds Try.pinned (OpenSpec.ofChange fnHyphenLevelsSpec)

/-- ITS FALSE NEIGHBOUR: 'it returns false'. Refute it at one input. -/
def fnHyphenLevelsWrong : ChangeSpec := { name := "fnHyphenLevels", fn := fun _ => fun
  | [d] => { results := [.lit (.bool false)], args := [d] }
  | _ => none }
def FnHyphenLevelsWrongFalsely : Prop := fnHyphenLevelsRow.holds Try.pinned (OpenSpec.ofChange fnHyphenLevelsWrong)

/-- 'laws.FnHyphenLevelsMore': WHATEVER THE INPUT: true; the input reads as it did. -/
def fnHyphenLevelsMoreSpec : ChangeSpec := { name := "fnHyphenLevelsMore", fn := fun _ => fun
  | [d] => { results := [.lit (.bool true)], args := [d] }
  | _ => none }
def fnHyphenLevelsMoreRow : OpenClaim := { program := "ytpohkeenfbaklaa", sum := "2312abd5391f7c08958ebd63965a0623eb69db7703f35f852afe2bd4b32fbe18", func := "loop.example/braille/laws.FnHyphenLevelsMore", spec := "fnHyphenLevelsMore", apart := false }
def FnHyphenLevelsMoreSaid : Prop := fnHyphenLevelsMoreRow.holds Try.pinned (OpenSpec.ofChange fnHyphenLevelsMoreSpec)

/-- ITS FALSE NEIGHBOUR: 'it returns false'. Refute it at one input. -/
def fnHyphenLevelsMoreWrong : ChangeSpec := { name := "fnHyphenLevelsMore", fn := fun _ => fun
  | [d] => { results := [.lit (.bool false)], args := [d] }
  | _ => none }
def FnHyphenLevelsMoreWrongFalsely : Prop := fnHyphenLevelsMoreRow.holds Try.pinned (OpenSpec.ofChange fnHyphenLevelsMoreWrong)

/-- 'laws.FnHyphenPoints': WHATEVER THE INPUT: true; the input reads as it did. -/
def fnHyphenPointsSpec : ChangeSpec := { name := "fnHyphenPoints", fn := fun _ => fun
  | [d] => { results := [.lit (.bool true)], args := [d] }
  | _ => none }
def fnHyphenPointsRow : OpenClaim := { program := "ytpohkeenfbaklaa", sum := "2312abd5391f7c08958ebd63965a0623eb69db7703f35f852afe2bd4b32fbe18", func := "loop.example/braille/laws.FnHyphenPoints", spec := "fnHyphenPoints", apart := false }
def FnHyphenPointsSaid : Prop := fnHyphenPointsRow.holds Try.pinned (OpenSpec.ofChange fnHyphenPointsSpec)

/-- ITS FALSE NEIGHBOUR: 'it returns false'. Refute it at one input. -/
def fnHyphenPointsWrong : ChangeSpec := { name := "fnHyphenPoints", fn := fun _ => fun
  | [d] => { results := [.lit (.bool false)], args := [d] }
  | _ => none }
def FnHyphenPointsWrongFalsely : Prop := fnHyphenPointsRow.holds Try.pinned (OpenSpec.ofChange fnHyphenPointsWrong)

/-- 'laws.FnDivideWord': WHATEVER THE INPUT: true; the input reads as it did. -/
def fnDivideWordSpec : ChangeSpec := { name := "fnDivideWord", fn := fun _ => fun
  | [d] => { results := [.lit (.bool true)], args := [d] }
  | _ => none }
def fnDivideWordRow : OpenClaim := { program := "ytpohkeenfbaklaa", sum := "2312abd5391f7c08958ebd63965a0623eb69db7703f35f852afe2bd4b32fbe18", func := "loop.example/braille/laws.FnDivideWord", spec := "fnDivideWord", apart := false }
def FnDivideWordSaid : Prop := fnDivideWordRow.holds Try.pinned (OpenSpec.ofChange fnDivideWordSpec)

/-- ITS FALSE NEIGHBOUR: 'it returns false'. Refute it at one input. -/
def fnDivideWordWrong : ChangeSpec := { name := "fnDivideWord", fn := fun _ => fun
  | [d] => { results := [.lit (.bool false)], args := [d] }
  | _ => none }
def FnDivideWordWrongFalsely : Prop := fnDivideWordRow.holds Try.pinned (OpenSpec.ofChange fnDivideWordWrong)

/-- 'laws.FnHyphenPointsNone': WHATEVER THE INPUT: true; the input reads as it did. -/
def fnHyphenPointsNoneSpec : ChangeSpec := { name := "fnHyphenPointsNone", fn := fun _ => fun
  | [d] => { results := [.lit (.bool true)], args := [d] }
  | _ => none }
def fnHyphenPointsNoneRow : OpenClaim := { program := "ytpohkeenfbaklaa", sum := "2312abd5391f7c08958ebd63965a0623eb69db7703f35f852afe2bd4b32fbe18", func := "loop.example/braille/laws.FnHyphenPointsNone", spec := "fnHyphenPointsNone", apart := false }
def FnHyphenPointsNoneSaid : Prop := fnHyphenPointsNoneRow.holds Try.pinned (OpenSpec.ofChange fnHyphenPointsNoneSpec)

/-- ITS FALSE NEIGHBOUR: 'it returns false'. Refute it at one input. -/
def fnHyphenPointsNoneWrong : ChangeSpec := { name := "fnHyphenPointsNone", fn := fun _ => fun
  | [d] => { results := [.lit (.bool false)], args := [d] }
  | _ => none }
def FnHyphenPointsNoneWrongFalsely : Prop := fnHyphenPointsNoneRow.holds Try.pinned (OpenSpec.ofChange fnHyphenPointsNoneWrong)

/-- 'laws.FnExactValidPatterns': WHATEVER THE INPUT: true; the input reads as it did. -/
def fnExactValidPatternsSpec : ChangeSpec := { name := "fnExactValidPatterns", fn := fun _ => fun
  | [d] => { results := [.lit (.bool true)], args := [d] }
  | _ => none }
def fnExactValidPatternsRow : OpenClaim := { program := "ytpohkeenfbaklaa", sum := "2312abd5391f7c08958ebd63965a0623eb69db7703f35f852afe2bd4b32fbe18", func := "loop.example/braille/laws.FnExactValidPatterns", spec := "fnExactValidPatterns", apart := false }
def FnExactValidPatternsSaid : Prop := fnExactValidPatternsRow.holds Try.pinned (OpenSpec.ofChange fnExactValidPatternsSpec)

/-- ITS FALSE NEIGHBOUR: 'it returns false'. Refute it at one input. -/
def fnExactValidPatternsWrong : ChangeSpec := { name := "fnExactValidPatterns", fn := fun _ => fun
  | [d] => { results := [.lit (.bool false)], args := [d] }
  | _ => none }
def FnExactValidPatternsWrongFalsely : Prop := fnExactValidPatternsRow.holds Try.pinned (OpenSpec.ofChange fnExactValidPatternsWrong)

/-- 'laws.FnExactHyphenLevels': WHATEVER THE INPUT: true; the input reads as it did. -/
def fnExactHyphenLevelsSpec : ChangeSpec := { name := "fnExactHyphenLevels", fn := fun _ => fun
  | [d1, d2] => { results := [.lit (.bool true)], args := [d1, d2] }
  | _ => none }
def fnExactHyphenLevelsRow : OpenClaim := { program := "ytpohkeenfbaklaa", sum := "2312abd5391f7c08958ebd63965a0623eb69db7703f35f852afe2bd4b32fbe18", func := "loop.example/braille/laws.FnExactHyphenLevels", spec := "fnExactHyphenLevels", apart := false }
def FnExactHyphenLevelsSaid : Prop := fnExactHyphenLevelsRow.holds Try.pinned (OpenSpec.ofChange fnExactHyphenLevelsSpec)

/-- ITS FALSE NEIGHBOUR: 'it returns false'. Refute it at one input. -/
def fnExactHyphenLevelsWrong : ChangeSpec := { name := "fnExactHyphenLevels", fn := fun _ => fun
  | [d1, d2] => { results := [.lit (.bool false)], args := [d1, d2] }
  | _ => none }
def FnExactHyphenLevelsWrongFalsely : Prop := fnExactHyphenLevelsRow.holds Try.pinned (OpenSpec.ofChange fnExactHyphenLevelsWrong)

/-- 'laws.FnExactHyphenPoints': WHATEVER THE INPUT: true; the input reads as it did. -/
def fnExactHyphenPointsSpec : ChangeSpec := { name := "fnExactHyphenPoints", fn := fun _ => fun
  | [d1, d2] => { results := [.lit (.bool true)], args := [d1, d2] }
  | _ => none }
def fnExactHyphenPointsRow : OpenClaim := { program := "ytpohkeenfbaklaa", sum := "2312abd5391f7c08958ebd63965a0623eb69db7703f35f852afe2bd4b32fbe18", func := "loop.example/braille/laws.FnExactHyphenPoints", spec := "fnExactHyphenPoints", apart := false }
def FnExactHyphenPointsSaid : Prop := fnExactHyphenPointsRow.holds Try.pinned (OpenSpec.ofChange fnExactHyphenPointsSpec)

/-- ITS FALSE NEIGHBOUR: 'it returns false'. Refute it at one input. -/
def fnExactHyphenPointsWrong : ChangeSpec := { name := "fnExactHyphenPoints", fn := fun _ => fun
  | [d1, d2] => { results := [.lit (.bool false)], args := [d1, d2] }
  | _ => none }
def FnExactHyphenPointsWrongFalsely : Prop := fnExactHyphenPointsRow.holds Try.pinned (OpenSpec.ofChange fnExactHyphenPointsWrong)

/-- 'laws.FnExactDivideWord': WHATEVER THE INPUT: true; the input reads as it did. -/
def fnExactDivideWordSpec : ChangeSpec := { name := "fnExactDivideWord", fn := fun _ => fun
  | [d1, d2] => { results := [.lit (.bool true)], args := [d1, d2] }
  | _ => none }
def fnExactDivideWordRow : OpenClaim := { program := "ytpohkeenfbaklaa", sum := "2312abd5391f7c08958ebd63965a0623eb69db7703f35f852afe2bd4b32fbe18", func := "loop.example/braille/laws.FnExactDivideWord", spec := "fnExactDivideWord", apart := false }
def FnExactDivideWordSaid : Prop := fnExactDivideWordRow.holds Try.pinned (OpenSpec.ofChange fnExactDivideWordSpec)

/-- ITS FALSE NEIGHBOUR: 'it returns false'. Refute it at one input. -/
def fnExactDivideWordWrong : ChangeSpec := { name := "fnExactDivideWord", fn := fun _ => fun
  | [d1, d2] => { results := [.lit (.bool false)], args := [d1, d2] }
  | _ => none }
def FnExactDivideWordWrongFalsely : Prop := fnExactDivideWordRow.holds Try.pinned (OpenSpec.ofChange fnExactDivideWordWrong)

/- THE SECOND FORM. 'bulk': how many values and letters a reading holds, each counted each time it is reached (what is shared counts as often as it is met; a slice's spare places count too). A statement '..UptoSaid' is the law's where the arguments, and the package variables that the reading takes, are together of bulk at most 1048576: NARROWER than '..Said'. Prove '..Said' where nothing that the law and all that it calls make is longer than what came in: it says more and counts as full. Else prove '..UptoSaid'. A law counts once. -/
mutual
def uptoBulk {H : Type} : DataW H → Nat
  | .lit (.string bytes) => bytes.length + 1
  | .lit _ => 1
  | .nil => 1
  | .ptr d => uptoBulk d + 1
  | .slice elems spare => uptoBulkAll elems + uptoBulkAll spare + 1
  | .agg parts => uptoBulkAll parts + 1
  | .iface _ d => uptoBulk d + 1
  | .map entries => uptoBulkEntries entries + 1
  | .held _ => 1
def uptoBulkAll {H : Type} : List (DataW H) → Nat
  | [] => 0
  | d :: r => uptoBulk d + uptoBulkAll r
def uptoBulkEntries {H : Type} : List (Lit × DataW H) → Nat
  | [] => 0
  | x :: r => uptoBulkEntry x + uptoBulkEntries r
def uptoBulkEntry {H : Type} : Lit × DataW H → Nat
  | (.string bytes, d) => bytes.length + uptoBulk d + 1
  | (_, d) => uptoBulk d + 1
 end
def uptoSmall : (H : Type) → List (DataW H) → Bool := fun _ ds => decide (uptoBulkAll ds ≤ 1048576)
def OpenSpec.upto (s : _root_.Go.ChangeSpec) : _root_.Go.OpenSpec := { _root_.Go.OpenSpec.ofChange s with cond := some uptoSmall }

/-- 'laws.FnValidPatterns', WHERE WHAT IT READS IS OF BULK AT MOST 1048576: true; the input reads as it did. -/
def fnValidPatternsUptoRow : OpenClaim := { program := "ytpohkeenfbaklaa", sum := "2312abd5391f7c08958ebd63965a0623eb69db7703f35f852afe2bd4b32fbe18", func := "loop.example/braille/laws.FnValidPatterns", spec := "fnValidPatterns", apart := false, narrowed := true }
def FnValidPatternsUptoSaid : Prop := fnValidPatternsUptoRow.holds Try.pinned (OpenSpec.upto fnValidPatternsSpec)

/-- 'laws.FnHyphenLevels', WHERE WHAT IT READS IS OF BULK AT MOST 1048576: true; the input reads as it did. -/
def fnHyphenLevelsUptoRow : OpenClaim := { program := "ytpohkeenfbaklaa", sum := "2312abd5391f7c08958ebd63965a0623eb69db7703f35f852afe2bd4b32fbe18", func := "loop.example/braille/laws.FnHyphenLevels", spec := "fnHyphenLevels", apart := false, narrowed := true }
def FnHyphenLevelsUptoSaid : Prop := fnHyphenLevelsUptoRow.holds Try.pinned (OpenSpec.upto fnHyphenLevelsSpec)

/-- 'laws.FnHyphenLevelsMore', WHERE WHAT IT READS IS OF BULK AT MOST 1048576: true; the input reads as it did. -/
def fnHyphenLevelsMoreUptoRow : OpenClaim := { program := "ytpohkeenfbaklaa", sum := "2312abd5391f7c08958ebd63965a0623eb69db7703f35f852afe2bd4b32fbe18", func := "loop.example/braille/laws.FnHyphenLevelsMore", spec := "fnHyphenLevelsMore", apart := false, narrowed := true }
def FnHyphenLevelsMoreUptoSaid : Prop := fnHyphenLevelsMoreUptoRow.holds Try.pinned (OpenSpec.upto fnHyphenLevelsMoreSpec)

/-- 'laws.FnHyphenPoints', WHERE WHAT IT READS IS OF BULK AT MOST 1048576: true; the input reads as it did. -/
def fnHyphenPointsUptoRow : OpenClaim := { program := "ytpohkeenfbaklaa", sum := "2312abd5391f7c08958ebd63965a0623eb69db7703f35f852afe2bd4b32fbe18", func := "loop.example/braille/laws.FnHyphenPoints", spec := "fnHyphenPoints", apart := false, narrowed := true }
def FnHyphenPointsUptoSaid : Prop := fnHyphenPointsUptoRow.holds Try.pinned (OpenSpec.upto fnHyphenPointsSpec)

/-- 'laws.FnDivideWord', WHERE WHAT IT READS IS OF BULK AT MOST 1048576: true; the input reads as it did. -/
def fnDivideWordUptoRow : OpenClaim := { program := "ytpohkeenfbaklaa", sum := "2312abd5391f7c08958ebd63965a0623eb69db7703f35f852afe2bd4b32fbe18", func := "loop.example/braille/laws.FnDivideWord", spec := "fnDivideWord", apart := false, narrowed := true }
def FnDivideWordUptoSaid : Prop := fnDivideWordUptoRow.holds Try.pinned (OpenSpec.upto fnDivideWordSpec)

/-- 'laws.FnHyphenPointsNone', WHERE WHAT IT READS IS OF BULK AT MOST 1048576: true; the input reads as it did. -/
def fnHyphenPointsNoneUptoRow : OpenClaim := { program := "ytpohkeenfbaklaa", sum := "2312abd5391f7c08958ebd63965a0623eb69db7703f35f852afe2bd4b32fbe18", func := "loop.example/braille/laws.FnHyphenPointsNone", spec := "fnHyphenPointsNone", apart := false, narrowed := true }
def FnHyphenPointsNoneUptoSaid : Prop := fnHyphenPointsNoneUptoRow.holds Try.pinned (OpenSpec.upto fnHyphenPointsNoneSpec)

/-- 'laws.FnExactValidPatterns', WHERE WHAT IT READS IS OF BULK AT MOST 1048576: true; the input reads as it did. -/
def fnExactValidPatternsUptoRow : OpenClaim := { program := "ytpohkeenfbaklaa", sum := "2312abd5391f7c08958ebd63965a0623eb69db7703f35f852afe2bd4b32fbe18", func := "loop.example/braille/laws.FnExactValidPatterns", spec := "fnExactValidPatterns", apart := false, narrowed := true }
def FnExactValidPatternsUptoSaid : Prop := fnExactValidPatternsUptoRow.holds Try.pinned (OpenSpec.upto fnExactValidPatternsSpec)

/-- 'laws.FnExactHyphenLevels', WHERE WHAT IT READS IS OF BULK AT MOST 1048576: true; the input reads as it did. -/
def fnExactHyphenLevelsUptoRow : OpenClaim := { program := "ytpohkeenfbaklaa", sum := "2312abd5391f7c08958ebd63965a0623eb69db7703f35f852afe2bd4b32fbe18", func := "loop.example/braille/laws.FnExactHyphenLevels", spec := "fnExactHyphenLevels", apart := false, narrowed := true }
def FnExactHyphenLevelsUptoSaid : Prop := fnExactHyphenLevelsUptoRow.holds Try.pinned (OpenSpec.upto fnExactHyphenLevelsSpec)

/-- 'laws.FnExactHyphenPoints', WHERE WHAT IT READS IS OF BULK AT MOST 1048576: true; the input reads as it did. -/
def fnExactHyphenPointsUptoRow : OpenClaim := { program := "ytpohkeenfbaklaa", sum := "2312abd5391f7c08958ebd63965a0623eb69db7703f35f852afe2bd4b32fbe18", func := "loop.example/braille/laws.FnExactHyphenPoints", spec := "fnExactHyphenPoints", apart := false, narrowed := true }
def FnExactHyphenPointsUptoSaid : Prop := fnExactHyphenPointsUptoRow.holds Try.pinned (OpenSpec.upto fnExactHyphenPointsSpec)

/-- 'laws.FnExactDivideWord', WHERE WHAT IT READS IS OF BULK AT MOST 1048576: true; the input reads as it did. -/
def fnExactDivideWordUptoRow : OpenClaim := { program := "ytpohkeenfbaklaa", sum := "2312abd5391f7c08958ebd63965a0623eb69db7703f35f852afe2bd4b32fbe18", func := "loop.example/braille/laws.FnExactDivideWord", spec := "fnExactDivideWord", apart := false, narrowed := true }
def FnExactDivideWordUptoSaid : Prop := fnExactDivideWordUptoRow.holds Try.pinned (OpenSpec.upto fnExactDivideWordSpec)

end Rows
end Go.Proofs.Ytpohkeenfbaklaa
