/-
  No cell of these rows narrows 'for every input' (looked for: loops, veiled, ifaces, maps, wideKeys, modest, calm, conditions, laid).
  DERIVED. THE GIVEN ROWS OF THIS SEAT. 4 by the template 'for every input the law returns true; each argument reads behind the call as it read before'; 0 by the template 'total and deterministic' (their statements: YtcjkcjboepojoaaTotals.lean).
  GIVEN WITH THE SEED: the statements are not yours to turn. If you find one false, say at which input.
  Laid BY PROGRAM, IN A SANDBOX (cutbox-rows.mjs): the forced cells as the released guide's own fill.sh prints them over the translation bb33a324b6ba6781… (all of the seat's roots in one cut). By AI agents, Wed Nov 11 2026. No macro, syntax, notation, axiom, sorry.
-/
import Derived.Test.YtcjkcjboepojoaaChecked
import GoSem.Claim
import GoSem.ClaimJoined
import GoSem.ClaimMapViews
import Derived.JoinedTies
import Derived.KernelRfl
namespace Go.Proofs.Ytcjkcjboepojoaa
/- THE CELL 'sum', in the pinned program and in every row, IS THE sha256 OF THE DUMP (.gsa) THAT YtcjkcjboepojoaaProg.lean LOADS. Nothing in Lean hashes anything: it is a label: what it is worth is what the hold of that sum in a sandbox is worth. -/
noncomputable def Try.pinned : Pinned := { name := "ytcjkcjboepojoaa", sum := "bb33a324b6ba678132a1c09973647b5b50ef2c9c52522a66ca104a778615b5b8", checked := Try.checked }
namespace Rows
def none {H : Type} : Left H := { results := [], args := [] }

/-- 'laws.FnPlaceOfLine': WHATEVER THE INPUT: true; the input reads as it did. -/
def fnPlaceOfLineSpec : ChangeSpec := { name := "fnPlaceOfLine", fn := fun _ => fun
  | [d] => { results := [.lit (.bool true)], args := [d] }
  | _ => none }
def fnPlaceOfLineRow : OpenClaim := { program := "ytcjkcjboepojoaa", sum := "bb33a324b6ba678132a1c09973647b5b50ef2c9c52522a66ca104a778615b5b8", func := "loop.example/braille/laws.FnPlaceOfLine", spec := "fnPlaceOfLine", apart := false }
def FnPlaceOfLineSaid : Prop := fnPlaceOfLineRow.holds Try.pinned (OpenSpec.ofChange fnPlaceOfLineSpec)

/-- ITS FALSE NEIGHBOUR: 'it returns false'. Refute it at one input. -/
def fnPlaceOfLineWrong : ChangeSpec := { name := "fnPlaceOfLine", fn := fun _ => fun
  | [d] => { results := [.lit (.bool false)], args := [d] }
  | _ => none }
def FnPlaceOfLineWrongFalsely : Prop := fnPlaceOfLineRow.holds Try.pinned (OpenSpec.ofChange fnPlaceOfLineWrong)

/-- 'laws.FnLineOfPlace': WHATEVER THE INPUT: true; the input reads as it did. -/
def fnLineOfPlaceSpec : ChangeSpec := { name := "fnLineOfPlace", fn := fun _ => fun
  | [d] => { results := [.lit (.bool true)], args := [d] }
  | _ => none }
def fnLineOfPlaceRow : OpenClaim := { program := "ytcjkcjboepojoaa", sum := "bb33a324b6ba678132a1c09973647b5b50ef2c9c52522a66ca104a778615b5b8", func := "loop.example/braille/laws.FnLineOfPlace", spec := "fnLineOfPlace", apart := false }
def FnLineOfPlaceSaid : Prop := fnLineOfPlaceRow.holds Try.pinned (OpenSpec.ofChange fnLineOfPlaceSpec)

/-- ITS FALSE NEIGHBOUR: 'it returns false'. Refute it at one input. -/
def fnLineOfPlaceWrong : ChangeSpec := { name := "fnLineOfPlace", fn := fun _ => fun
  | [d] => { results := [.lit (.bool false)], args := [d] }
  | _ => none }
def FnLineOfPlaceWrongFalsely : Prop := fnLineOfPlaceRow.holds Try.pinned (OpenSpec.ofChange fnLineOfPlaceWrong)

/-- 'laws.FnExactPlaceOfLine': WHATEVER THE INPUT: true; the input reads as it did. -/
def fnExactPlaceOfLineSpec : ChangeSpec := { name := "fnExactPlaceOfLine", fn := fun _ => fun
  | [d1, d2] => { results := [.lit (.bool true)], args := [d1, d2] }
  | _ => none }
def fnExactPlaceOfLineRow : OpenClaim := { program := "ytcjkcjboepojoaa", sum := "bb33a324b6ba678132a1c09973647b5b50ef2c9c52522a66ca104a778615b5b8", func := "loop.example/braille/laws.FnExactPlaceOfLine", spec := "fnExactPlaceOfLine", apart := false }
def FnExactPlaceOfLineSaid : Prop := fnExactPlaceOfLineRow.holds Try.pinned (OpenSpec.ofChange fnExactPlaceOfLineSpec)

/-- ITS FALSE NEIGHBOUR: 'it returns false'. Refute it at one input. -/
def fnExactPlaceOfLineWrong : ChangeSpec := { name := "fnExactPlaceOfLine", fn := fun _ => fun
  | [d1, d2] => { results := [.lit (.bool false)], args := [d1, d2] }
  | _ => none }
def FnExactPlaceOfLineWrongFalsely : Prop := fnExactPlaceOfLineRow.holds Try.pinned (OpenSpec.ofChange fnExactPlaceOfLineWrong)

/-- 'laws.FnExactLineOfPlace': WHATEVER THE INPUT: true; the input reads as it did. -/
def fnExactLineOfPlaceSpec : ChangeSpec := { name := "fnExactLineOfPlace", fn := fun _ => fun
  | [d1, d2, d3] => { results := [.lit (.bool true)], args := [d1, d2, d3] }
  | _ => none }
def fnExactLineOfPlaceRow : OpenClaim := { program := "ytcjkcjboepojoaa", sum := "bb33a324b6ba678132a1c09973647b5b50ef2c9c52522a66ca104a778615b5b8", func := "loop.example/braille/laws.FnExactLineOfPlace", spec := "fnExactLineOfPlace", apart := false }
def FnExactLineOfPlaceSaid : Prop := fnExactLineOfPlaceRow.holds Try.pinned (OpenSpec.ofChange fnExactLineOfPlaceSpec)

/-- ITS FALSE NEIGHBOUR: 'it returns false'. Refute it at one input. -/
def fnExactLineOfPlaceWrong : ChangeSpec := { name := "fnExactLineOfPlace", fn := fun _ => fun
  | [d1, d2, d3] => { results := [.lit (.bool false)], args := [d1, d2, d3] }
  | _ => none }
def FnExactLineOfPlaceWrongFalsely : Prop := fnExactLineOfPlaceRow.holds Try.pinned (OpenSpec.ofChange fnExactLineOfPlaceWrong)

/- THE SECOND FORM. 'bulk': how many values and letters a reading holds, each counted each time it is reached (what is shared counts as often as it is met; a slice's spare places count too). A statement '..UptoSaid' is the law's where the arguments, and the package variables that the reading takes, are together of bulk at most 1048576: NARROWER than '..Said'. Prove '..Said' where nothing that the law and all that it calls make is longer than what came in: it says more and counts as full. Else prove '..UptoSaid'. A law counts once. -/
mutual
def uptoBulk {H : Type} : DataW H → Nat
  | .lit (.string bytes) => bytes.length + 1
  | .lit _ => 1
  | .nil => 1
  | .ptr d => uptoBulk d + 1
  | .slice elems spare => uptoBulkAll elems + uptoBulkAll spare + 1
  | .agg parts => uptoBulkAll parts + 1
  | .iface _ d => uptoBulk d + 1
  | .map entries => uptoBulkEntries entries + 1
  | .held _ => 1
def uptoBulkAll {H : Type} : List (DataW H) → Nat
  | [] => 0
  | d :: r => uptoBulk d + uptoBulkAll r
def uptoBulkEntries {H : Type} : List (Lit × DataW H) → Nat
  | [] => 0
  | x :: r => uptoBulkEntry x + uptoBulkEntries r
def uptoBulkEntry {H : Type} : Lit × DataW H → Nat
  | (.string bytes, d) => bytes.length + uptoBulk d + 1
  | (_, d) => uptoBulk d + 1
 end
def uptoSmall : (H : Type) → List (DataW H) → Bool := fun _ ds => decide (uptoBulkAll ds ≤ 1048576)
def OpenSpec.upto (s : _root_.Go.ChangeSpec) : _root_.Go.OpenSpec := { _root_.Go.OpenSpec.ofChange s with cond := some uptoSmall }

/-- 'laws.FnPlaceOfLine', WHERE WHAT IT READS IS OF BULK AT MOST 1048576: true; the input reads as it did. -/
def fnPlaceOfLineUptoRow : OpenClaim := { program := "ytcjkcjboepojoaa", sum := "bb33a324b6ba678132a1c09973647b5b50ef2c9c52522a66ca104a778615b5b8", func := "loop.example/braille/laws.FnPlaceOfLine", spec := "fnPlaceOfLine", apart := false, narrowed := true }
def FnPlaceOfLineUptoSaid : Prop := fnPlaceOfLineUptoRow.holds Try.pinned (OpenSpec.upto fnPlaceOfLineSpec)

/-- 'laws.FnLineOfPlace', WHERE WHAT IT READS IS OF BULK AT MOST 1048576: true; the input reads as it did. -/
def fnLineOfPlaceUptoRow : OpenClaim := { program := "ytcjkcjboepojoaa", sum := "bb33a324b6ba678132a1c09973647b5b50ef2c9c52522a66ca104a778615b5b8", func := "loop.example/braille/laws.FnLineOfPlace", spec := "fnLineOfPlace", apart := false, narrowed := true }
def FnLineOfPlaceUptoSaid : Prop := fnLineOfPlaceUptoRow.holds Try.pinned (OpenSpec.upto fnLineOfPlaceSpec)

/-- 'laws.FnExactPlaceOfLine', WHERE WHAT IT READS IS OF BULK AT MOST 1048576: true; the input reads as it did. -/
def fnExactPlaceOfLineUptoRow : OpenClaim := { program := "ytcjkcjboepojoaa", sum := "bb33a324b6ba678132a1c09973647b5b50ef2c9c52522a66ca104a778615b5b8", func := "loop.example/braille/laws.FnExactPlaceOfLine", spec := "fnExactPlaceOfLine", apart := false, narrowed := true }
def FnExactPlaceOfLineUptoSaid : Prop := fnExactPlaceOfLineUptoRow.holds Try.pinned (OpenSpec.upto fnExactPlaceOfLineSpec)

/-- 'laws.FnExactLineOfPlace', WHERE WHAT IT READS IS OF BULK AT MOST 1048576: true; the input reads as it did. -/
def fnExactLineOfPlaceUptoRow : OpenClaim := { program := "ytcjkcjboepojoaa", sum := "bb33a324b6ba678132a1c09973647b5b50ef2c9c52522a66ca104a778615b5b8", func := "loop.example/braille/laws.FnExactLineOfPlace", spec := "fnExactLineOfPlace", apart := false, narrowed := true }
def FnExactLineOfPlaceUptoSaid : Prop := fnExactLineOfPlaceUptoRow.holds Try.pinned (OpenSpec.upto fnExactLineOfPlaceSpec)

end Rows
end Go.Proofs.Ytcjkcjboepojoaa
