/-
  No cell of these rows narrows 'for every input' (looked for: loops, veiled, ifaces, maps, wideKeys, modest, calm, conditions, laid).
  DERIVED. THE GIVEN ROWS OF THIS SEAT. 8 by the template 'for every input the law returns true; each argument reads behind the call as it read before'; 0 by the template 'total and deterministic' (their statements: YtdkmbkojipkojaaTotals.lean).
  GIVEN WITH THE SEED: the statements are not yours to turn. If you find one false, say at which input.
  Laid BY PROGRAM, IN A SANDBOX (cutbox-rows.mjs): the forced cells as the released guide's own fill.sh prints them over the translation 3bf8a9e31871bf1d… (all of the seat's roots in one cut). By AI agents, Wed Nov 11 2026. No macro, syntax, notation, axiom, sorry.
-/
import Derived.Test.YtdkmbkojipkojaaChecked
import GoSem.Claim
import GoSem.ClaimJoined
import GoSem.ClaimMapViews
import Derived.JoinedTies
import Derived.KernelRfl
namespace Go.Proofs.Ytdkmbkojipkojaa
/- THE CELL 'sum', in the pinned program and in every row, IS THE sha256 OF THE DUMP (.gsa) THAT YtdkmbkojipkojaaProg.lean LOADS. Nothing in Lean hashes anything: it is a label: what it is worth is what the hold of that sum in a sandbox is worth. -/
noncomputable def Try.pinned : Pinned := { name := "ytdkmbkojipkojaa", sum := "3bf8a9e31871bf1d65c625c9e9f9bb93d08ff17a8380d280f1966082d6f102ba", checked := Try.checked }
namespace Rows
def none {H : Type} : Left H := { results := [], args := [] }

/-- 'laws.FnLengthOf': WHATEVER THE INPUT: true; the input reads as it did. -/
def fnLengthOfSpec : ChangeSpec := { name := "fnLengthOf", fn := fun _ => fun
  | [d] => { results := [.lit (.bool true)], args := [d] }
  | _ => none }
def fnLengthOfRow : OpenClaim := { program := "ytdkmbkojipkojaa", sum := "3bf8a9e31871bf1d65c625c9e9f9bb93d08ff17a8380d280f1966082d6f102ba", func := "loop.example/braille/laws.FnLengthOf", spec := "fnLengthOf", apart := false }
def FnLengthOfSaid : Prop := fnLengthOfRow.holds Try.pinned (OpenSpec.ofChange fnLengthOfSpec)

/-- ITS FALSE NEIGHBOUR: 'it returns false'. Refute it at one input. -/
def fnLengthOfWrong : ChangeSpec := { name := "fnLengthOf", fn := fun _ => fun
  | [d] => { results := [.lit (.bool false)], args := [d] }
  | _ => none }
def FnLengthOfWrongFalsely : Prop := fnLengthOfRow.holds Try.pinned (OpenSpec.ofChange fnLengthOfWrong)

/-- 'laws.FnBarsOf': WHATEVER THE INPUT: true; the input reads as it did. -/
def fnBarsOfSpec : ChangeSpec := { name := "fnBarsOf", fn := fun _ => fun
  | [d] => { results := [.lit (.bool true)], args := [d] }
  | _ => none }
def fnBarsOfRow : OpenClaim := { program := "ytdkmbkojipkojaa", sum := "3bf8a9e31871bf1d65c625c9e9f9bb93d08ff17a8380d280f1966082d6f102ba", func := "loop.example/braille/laws.FnBarsOf", spec := "fnBarsOf", apart := false }
def FnBarsOfSaid : Prop := fnBarsOfRow.holds Try.pinned (OpenSpec.ofChange fnBarsOfSpec)

/-- ITS FALSE NEIGHBOUR: 'it returns false'. Refute it at one input. -/
def fnBarsOfWrong : ChangeSpec := { name := "fnBarsOf", fn := fun _ => fun
  | [d] => { results := [.lit (.bool false)], args := [d] }
  | _ => none }
def FnBarsOfWrongFalsely : Prop := fnBarsOfRow.holds Try.pinned (OpenSpec.ofChange fnBarsOfWrong)

/-- 'laws.FnBarsOfHigher': WHATEVER THE INPUT: true; the input reads as it did. -/
def fnBarsOfHigherSpec : ChangeSpec := { name := "fnBarsOfHigher", fn := fun _ => fun
  | [d] => { results := [.lit (.bool true)], args := [d] }
  | _ => none }
def fnBarsOfHigherRow : OpenClaim := { program := "ytdkmbkojipkojaa", sum := "3bf8a9e31871bf1d65c625c9e9f9bb93d08ff17a8380d280f1966082d6f102ba", func := "loop.example/braille/laws.FnBarsOfHigher", spec := "fnBarsOfHigher", apart := false }
def FnBarsOfHigherSaid : Prop := fnBarsOfHigherRow.holds Try.pinned (OpenSpec.ofChange fnBarsOfHigherSpec)

/-- ITS FALSE NEIGHBOUR: 'it returns false'. Refute it at one input. -/
def fnBarsOfHigherWrong : ChangeSpec := { name := "fnBarsOfHigher", fn := fun _ => fun
  | [d] => { results := [.lit (.bool false)], args := [d] }
  | _ => none }
def FnBarsOfHigherWrongFalsely : Prop := fnBarsOfHigherRow.holds Try.pinned (OpenSpec.ofChange fnBarsOfHigherWrong)

/-- 'laws.FnTranspose': WHATEVER THE INPUT: true; the input reads as it did. -/
def fnTransposeSpec : ChangeSpec := { name := "fnTranspose", fn := fun _ => fun
  | [d] => { results := [.lit (.bool true)], args := [d] }
  | _ => none }
def fnTransposeRow : OpenClaim := { program := "ytdkmbkojipkojaa", sum := "3bf8a9e31871bf1d65c625c9e9f9bb93d08ff17a8380d280f1966082d6f102ba", func := "loop.example/braille/laws.FnTranspose", spec := "fnTranspose", apart := false }
def FnTransposeSaid : Prop := fnTransposeRow.holds Try.pinned (OpenSpec.ofChange fnTransposeSpec)

/-- ITS FALSE NEIGHBOUR: 'it returns false'. Refute it at one input. -/
def fnTransposeWrong : ChangeSpec := { name := "fnTranspose", fn := fun _ => fun
  | [d] => { results := [.lit (.bool false)], args := [d] }
  | _ => none }
def FnTransposeWrongFalsely : Prop := fnTransposeRow.holds Try.pinned (OpenSpec.ofChange fnTransposeWrong)

/-- 'laws.FnTransposeRests': WHATEVER THE INPUT: true; the input reads as it did. -/
def fnTransposeRestsSpec : ChangeSpec := { name := "fnTransposeRests", fn := fun _ => fun
  | [d] => { results := [.lit (.bool true)], args := [d] }
  | _ => none }
def fnTransposeRestsRow : OpenClaim := { program := "ytdkmbkojipkojaa", sum := "3bf8a9e31871bf1d65c625c9e9f9bb93d08ff17a8380d280f1966082d6f102ba", func := "loop.example/braille/laws.FnTransposeRests", spec := "fnTransposeRests", apart := false }
def FnTransposeRestsSaid : Prop := fnTransposeRestsRow.holds Try.pinned (OpenSpec.ofChange fnTransposeRestsSpec)

/-- ITS FALSE NEIGHBOUR: 'it returns false'. Refute it at one input. -/
def fnTransposeRestsWrong : ChangeSpec := { name := "fnTransposeRests", fn := fun _ => fun
  | [d] => { results := [.lit (.bool false)], args := [d] }
  | _ => none }
def FnTransposeRestsWrongFalsely : Prop := fnTransposeRestsRow.holds Try.pinned (OpenSpec.ofChange fnTransposeRestsWrong)

/-- 'laws.FnExactLengthOf': WHATEVER THE INPUT: true; the input reads as it did. -/
def fnExactLengthOfSpec : ChangeSpec := { name := "fnExactLengthOf", fn := fun _ => fun
  | [d] => { results := [.lit (.bool true)], args := [d] }
  | _ => none }
def fnExactLengthOfRow : OpenClaim := { program := "ytdkmbkojipkojaa", sum := "3bf8a9e31871bf1d65c625c9e9f9bb93d08ff17a8380d280f1966082d6f102ba", func := "loop.example/braille/laws.FnExactLengthOf", spec := "fnExactLengthOf", apart := false }
def FnExactLengthOfSaid : Prop := fnExactLengthOfRow.holds Try.pinned (OpenSpec.ofChange fnExactLengthOfSpec)

/-- ITS FALSE NEIGHBOUR: 'it returns false'. Refute it at one input. -/
def fnExactLengthOfWrong : ChangeSpec := { name := "fnExactLengthOf", fn := fun _ => fun
  | [d] => { results := [.lit (.bool false)], args := [d] }
  | _ => none }
def FnExactLengthOfWrongFalsely : Prop := fnExactLengthOfRow.holds Try.pinned (OpenSpec.ofChange fnExactLengthOfWrong)

/-- 'laws.FnExactBarsOf': WHATEVER THE INPUT: true; the input reads as it did. -/
def fnExactBarsOfSpec : ChangeSpec := { name := "fnExactBarsOf", fn := fun _ => fun
  | [d1, d2] => { results := [.lit (.bool true)], args := [d1, d2] }
  | _ => none }
def fnExactBarsOfRow : OpenClaim := { program := "ytdkmbkojipkojaa", sum := "3bf8a9e31871bf1d65c625c9e9f9bb93d08ff17a8380d280f1966082d6f102ba", func := "loop.example/braille/laws.FnExactBarsOf", spec := "fnExactBarsOf", apart := false }
def FnExactBarsOfSaid : Prop := fnExactBarsOfRow.holds Try.pinned (OpenSpec.ofChange fnExactBarsOfSpec)

/-- ITS FALSE NEIGHBOUR: 'it returns false'. Refute it at one input. -/
def fnExactBarsOfWrong : ChangeSpec := { name := "fnExactBarsOf", fn := fun _ => fun
  | [d1, d2] => { results := [.lit (.bool false)], args := [d1, d2] }
  | _ => none }
def FnExactBarsOfWrongFalsely : Prop := fnExactBarsOfRow.holds Try.pinned (OpenSpec.ofChange fnExactBarsOfWrong)

/-- 'laws.FnExactTranspose': WHATEVER THE INPUT: true; the input reads as it did. -/
def fnExactTransposeSpec : ChangeSpec := { name := "fnExactTranspose", fn := fun _ => fun
  | [d1, d2] => { results := [.lit (.bool true)], args := [d1, d2] }
  | _ => none }
def fnExactTransposeRow : OpenClaim := { program := "ytdkmbkojipkojaa", sum := "3bf8a9e31871bf1d65c625c9e9f9bb93d08ff17a8380d280f1966082d6f102ba", func := "loop.example/braille/laws.FnExactTranspose", spec := "fnExactTranspose", apart := false }
def FnExactTransposeSaid : Prop := fnExactTransposeRow.holds Try.pinned (OpenSpec.ofChange fnExactTransposeSpec)

/-- ITS FALSE NEIGHBOUR: 'it returns false'. Refute it at one input. -/
def fnExactTransposeWrong : ChangeSpec := { name := "fnExactTranspose", fn := fun _ => fun
  | [d1, d2] => { results := [.lit (.bool false)], args := [d1, d2] }
  | _ => none }
def FnExactTransposeWrongFalsely : Prop := fnExactTransposeRow.holds Try.pinned (OpenSpec.ofChange fnExactTransposeWrong)

/- THE SECOND FORM. 'bulk': how many values and letters a reading holds, each counted each time it is reached (what is shared counts as often as it is met; a slice's spare places count too). A statement '..UptoSaid' is the law's where the arguments, and the package variables that the reading takes, are together of bulk at most 1048576: NARROWER than '..Said'. Prove '..Said' where nothing that the law and all that it calls make is longer than what came in: it says more and counts as full. Else prove '..UptoSaid'. A law counts once. -/
mutual
def uptoBulk {H : Type} : DataW H → Nat
  | .lit (.string bytes) => bytes.length + 1
  | .lit _ => 1
  | .nil => 1
  | .ptr d => uptoBulk d + 1
  | .slice elems spare => uptoBulkAll elems + uptoBulkAll spare + 1
  | .agg parts => uptoBulkAll parts + 1
  | .iface _ d => uptoBulk d + 1
  | .map entries => uptoBulkEntries entries + 1
  | .held _ => 1
def uptoBulkAll {H : Type} : List (DataW H) → Nat
  | [] => 0
  | d :: r => uptoBulk d + uptoBulkAll r
def uptoBulkEntries {H : Type} : List (Lit × DataW H) → Nat
  | [] => 0
  | x :: r => uptoBulkEntry x + uptoBulkEntries r
def uptoBulkEntry {H : Type} : Lit × DataW H → Nat
  | (.string bytes, d) => bytes.length + uptoBulk d + 1
  | (_, d) => uptoBulk d + 1
 end
def uptoSmall : (H : Type) → List (DataW H) → Bool := fun _ ds => decide (uptoBulkAll ds ≤ 1048576)
def OpenSpec.upto (s : _root_.Go.ChangeSpec) : _root_.Go.OpenSpec := { _root_.Go.OpenSpec.ofChange s with cond := some uptoSmall }

/-- 'laws.FnLengthOf', WHERE WHAT IT READS IS OF BULK AT MOST 1048576: true; the input reads as it did. -/
def fnLengthOfUptoRow : OpenClaim := { program := "ytdkmbkojipkojaa", sum := "3bf8a9e31871bf1d65c625c9e9f9bb93d08ff17a8380d280f1966082d6f102ba", func := "loop.example/braille/laws.FnLengthOf", spec := "fnLengthOf", apart := false, narrowed := true }
def FnLengthOfUptoSaid : Prop := fnLengthOfUptoRow.holds Try.pinned (OpenSpec.upto fnLengthOfSpec)

/-- 'laws.FnBarsOf', WHERE WHAT IT READS IS OF BULK AT MOST 1048576: true; the input reads as it did. -/
def fnBarsOfUptoRow : OpenClaim := { program := "ytdkmbkojipkojaa", sum := "3bf8a9e31871bf1d65c625c9e9f9bb93d08ff17a8380d280f1966082d6f102ba", func := "loop.example/braille/laws.FnBarsOf", spec := "fnBarsOf", apart := false, narrowed := true }
def FnBarsOfUptoSaid : Prop := fnBarsOfUptoRow.holds Try.pinned (OpenSpec.upto fnBarsOfSpec)

/-- 'laws.FnBarsOfHigher', WHERE WHAT IT READS IS OF BULK AT MOST 1048576: true; the input reads as it did. -/
def fnBarsOfHigherUptoRow : OpenClaim := { program := "ytdkmbkojipkojaa", sum := "3bf8a9e31871bf1d65c625c9e9f9bb93d08ff17a8380d280f1966082d6f102ba", func := "loop.example/braille/laws.FnBarsOfHigher", spec := "fnBarsOfHigher", apart := false, narrowed := true }
def FnBarsOfHigherUptoSaid : Prop := fnBarsOfHigherUptoRow.holds Try.pinned (OpenSpec.upto fnBarsOfHigherSpec)

/-- 'laws.FnTranspose', WHERE WHAT IT READS IS OF BULK AT MOST 1048576: true; the input reads as it did. -/
def fnTransposeUptoRow : OpenClaim := { program := "ytdkmbkojipkojaa", sum := "3bf8a9e31871bf1d65c625c9e9f9bb93d08ff17a8380d280f1966082d6f102ba", func := "loop.example/braille/laws.FnTranspose", spec := "fnTranspose", apart := false, narrowed := true }
def FnTransposeUptoSaid : Prop := fnTransposeUptoRow.holds Try.pinned (OpenSpec.upto fnTransposeSpec)

/-- 'laws.FnTransposeRests', WHERE WHAT IT READS IS OF BULK AT MOST 1048576: true; the input reads as it did. -/
def fnTransposeRestsUptoRow : OpenClaim := { program := "ytdkmbkojipkojaa", sum := "3bf8a9e31871bf1d65c625c9e9f9bb93d08ff17a8380d280f1966082d6f102ba", func := "loop.example/braille/laws.FnTransposeRests", spec := "fnTransposeRests", apart := false, narrowed := true }
def FnTransposeRestsUptoSaid : Prop := fnTransposeRestsUptoRow.holds Try.pinned (OpenSpec.upto fnTransposeRestsSpec)

/-- 'laws.FnExactLengthOf', WHERE WHAT IT READS IS OF BULK AT MOST 1048576: true; the input reads as it did. -/
def fnExactLengthOfUptoRow : OpenClaim := { program := "ytdkmbkojipkojaa", sum := "3bf8a9e31871bf1d65c625c9e9f9bb93d08ff17a8380d280f1966082d6f102ba", func := "loop.example/braille/laws.FnExactLengthOf", spec := "fnExactLengthOf", apart := false, narrowed := true }
def FnExactLengthOfUptoSaid : Prop := fnExactLengthOfUptoRow.holds Try.pinned (OpenSpec.upto fnExactLengthOfSpec)

/-- 'laws.FnExactBarsOf', WHERE WHAT IT READS IS OF BULK AT MOST 1048576: true; the input reads as it did. -/
def fnExactBarsOfUptoRow : OpenClaim := { program := "ytdkmbkojipkojaa", sum := "3bf8a9e31871bf1d65c625c9e9f9bb93d08ff17a8380d280f1966082d6f102ba", func := "loop.example/braille/laws.FnExactBarsOf", spec := "fnExactBarsOf", apart := false, narrowed := true }
def FnExactBarsOfUptoSaid : Prop := fnExactBarsOfUptoRow.holds Try.pinned (OpenSpec.upto fnExactBarsOfSpec)

/-- 'laws.FnExactTranspose', WHERE WHAT IT READS IS OF BULK AT MOST 1048576: true; the input reads as it did. -/
def fnExactTransposeUptoRow : OpenClaim := { program := "ytdkmbkojipkojaa", sum := "3bf8a9e31871bf1d65c625c9e9f9bb93d08ff17a8380d280f1966082d6f102ba", func := "loop.example/braille/laws.FnExactTranspose", spec := "fnExactTranspose", apart := false, narrowed := true }
def FnExactTransposeUptoSaid : Prop := fnExactTransposeUptoRow.holds Try.pinned (OpenSpec.upto fnExactTransposeSpec)

end Rows
end Go.Proofs.Ytdkmbkojipkojaa
