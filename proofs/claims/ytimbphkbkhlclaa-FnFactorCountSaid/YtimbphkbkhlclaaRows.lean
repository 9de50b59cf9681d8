/-
  No cell of these rows narrows 'for every input' (looked for: loops, veiled, ifaces, maps, wideKeys, modest, calm, conditions, laid).
  DERIVED. THE GIVEN ROWS OF THIS SEAT. 12 by the template 'for every input the law returns true; each argument reads behind the call as it read before'; 0 by the template 'total and deterministic' (their statements: YtimbphkbkhlclaaTotals.lean).
  GIVEN WITH THE SEED: the statements are not yours to turn. If you find one false, say at which input.
  Laid BY PROGRAM, IN A SANDBOX (cutbox-rows.mjs): the forced cells as the released guide's own fill.sh prints them over the translation 95611a3b6554032d… (all of the seat's roots in one cut). By AI agents, Wed Nov 11 2026. No macro, syntax, notation, axiom, sorry.
-/
import Derived.Test.YtimbphkbkhlclaaChecked
import GoSem.Claim
import GoSem.ClaimJoined
import GoSem.ClaimMapViews
import Derived.JoinedTies
import Derived.KernelRfl
namespace Go.Proofs.Ytimbphkbkhlclaa
/- THE CELL 'sum', in the pinned program and in every row, IS THE sha256 OF THE DUMP (.gsa) THAT YtimbphkbkhlclaaProg.lean LOADS. Nothing in Lean hashes anything: it is a label: what it is worth is what the hold of that sum in a sandbox is worth. -/
noncomputable def Try.pinned : Pinned := { name := "ytimbphkbkhlclaa", sum := "95611a3b6554032dda7789c4ad9ff49134e5a4b51898c396bf54e0e1964f6e84", checked := Try.checked }
namespace Rows
def none {H : Type} : Left H := { results := [], args := [] }

/-- 'laws.FnExactValidCode': WHATEVER THE INPUT: true; the input reads as it did. -/
def fnExactValidCodeSpec : ChangeSpec := { name := "fnExactValidCode", fn := fun _ => fun
  | [d] => { results := [.lit (.bool true)], args := [d] }
  | _ => none }
def fnExactValidCodeRow : OpenClaim := { program := "ytimbphkbkhlclaa", sum := "95611a3b6554032dda7789c4ad9ff49134e5a4b51898c396bf54e0e1964f6e84", func := "loop.example/braille/laws.FnExactValidCode", spec := "fnExactValidCode", apart := false }
def FnExactValidCodeSaid : Prop := fnExactValidCodeRow.holds Try.pinned (OpenSpec.ofChange fnExactValidCodeSpec)

/-- ITS FALSE NEIGHBOUR: 'it returns false'. Refute it at one input. -/
def fnExactValidCodeWrong : ChangeSpec := { name := "fnExactValidCode", fn := fun _ => fun
  | [d] => { results := [.lit (.bool false)], args := [d] }
  | _ => none }
def FnExactValidCodeWrongFalsely : Prop := fnExactValidCodeRow.holds Try.pinned (OpenSpec.ofChange fnExactValidCodeWrong)

/-- 'laws.FnValidCode': WHATEVER THE INPUT: true; the input reads as it did. -/
def fnValidCodeSpec : ChangeSpec := { name := "fnValidCode", fn := fun _ => fun
  | [d] => { results := [.lit (.bool true)], args := [d] }
  | _ => none }
def fnValidCodeRow : OpenClaim := { program := "ytimbphkbkhlclaa", sum := "95611a3b6554032dda7789c4ad9ff49134e5a4b51898c396bf54e0e1964f6e84", func := "loop.example/braille/laws.FnValidCode", spec := "fnValidCode", apart := false }
def FnValidCodeSaid : Prop := fnValidCodeRow.holds Try.pinned (OpenSpec.ofChange fnValidCodeSpec)

/-- ITS FALSE NEIGHBOUR: 'it returns false'. Refute it at one input. -/
def fnValidCodeWrong : ChangeSpec := { name := "fnValidCode", fn := fun _ => fun
  | [d] => { results := [.lit (.bool false)], args := [d] }
  | _ => none }
def FnValidCodeWrongFalsely : Prop := fnValidCodeRow.holds Try.pinned (OpenSpec.ofChange fnValidCodeWrong)

/-- 'laws.FnExactFactorCount': WHATEVER THE INPUT: true; the input reads as it did. -/
def fnExactFactorCountSpec : ChangeSpec := { name := "fnExactFactorCount", fn := fun _ => fun
  | [d1, d2] => { results := [.lit (.bool true)], args := [d1, d2] }
  | _ => none }
def fnExactFactorCountRow : OpenClaim := { program := "ytimbphkbkhlclaa", sum := "95611a3b6554032dda7789c4ad9ff49134e5a4b51898c396bf54e0e1964f6e84", func := "loop.example/braille/laws.FnExactFactorCount", spec := "fnExactFactorCount", apart := false }
def FnExactFactorCountSaid : Prop := fnExactFactorCountRow.holds Try.pinned (OpenSpec.ofChange fnExactFactorCountSpec)

/-- ITS FALSE NEIGHBOUR: 'it returns false'. Refute it at one input. -/
def fnExactFactorCountWrong : ChangeSpec := { name := "fnExactFactorCount", fn := fun _ => fun
  | [d1, d2] => { results := [.lit (.bool false)], args := [d1, d2] }
  | _ => none }
def FnExactFactorCountWrongFalsely : Prop := fnExactFactorCountRow.holds Try.pinned (OpenSpec.ofChange fnExactFactorCountWrong)

/-- 'laws.FnFactorCount': WHATEVER THE INPUT: true; the input reads as it did. -/
def fnFactorCountSpec : ChangeSpec := { name := "fnFactorCount", fn := fun _ => fun
  | [d] => { results := [.lit (.bool true)], args := [d] }
  | _ => none }
def fnFactorCountRow : OpenClaim := { program := "ytimbphkbkhlclaa", sum := "95611a3b6554032dda7789c4ad9ff49134e5a4b51898c396bf54e0e1964f6e84", func := "loop.example/braille/laws.FnFactorCount", spec := "fnFactorCount", apart := false }
def FnFactorCountSaid : Prop := fnFactorCountRow.holds Try.pinned (OpenSpec.ofChange fnFactorCountSpec)

/-- ITS FALSE NEIGHBOUR: 'it returns false'. Refute it at one input. -/
def fnFactorCountWrong : ChangeSpec := { name := "fnFactorCount", fn := fun _ => fun
  | [d] => { results := [.lit (.bool false)], args := [d] }
  | _ => none }
def FnFactorCountWrongFalsely : Prop := fnFactorCountRow.holds Try.pinned (OpenSpec.ofChange fnFactorCountWrong)

/-- 'laws.FnFactorCountFirst': WHATEVER THE INPUT: true; the input reads as it did. -/
def fnFactorCountFirstSpec : ChangeSpec := { name := "fnFactorCountFirst", fn := fun _ => fun
  | [d] => { results := [.lit (.bool true)], args := [d] }
  | _ => none }
def fnFactorCountFirstRow : OpenClaim := { program := "ytimbphkbkhlclaa", sum := "95611a3b6554032dda7789c4ad9ff49134e5a4b51898c396bf54e0e1964f6e84", func := "loop.example/braille/laws.FnFactorCountFirst", spec := "fnFactorCountFirst", apart := false }
def FnFactorCountFirstSaid : Prop := fnFactorCountFirstRow.holds Try.pinned (OpenSpec.ofChange fnFactorCountFirstSpec)

/-- ITS FALSE NEIGHBOUR: 'it returns false'. Refute it at one input. -/
def fnFactorCountFirstWrong : ChangeSpec := { name := "fnFactorCountFirst", fn := fun _ => fun
  | [d] => { results := [.lit (.bool false)], args := [d] }
  | _ => none }
def FnFactorCountFirstWrongFalsely : Prop := fnFactorCountFirstRow.holds Try.pinned (OpenSpec.ofChange fnFactorCountFirstWrong)

/-- 'laws.FnExactIsPrefixFree': WHATEVER THE INPUT: true; the input reads as it did. -/
def fnExactIsPrefixFreeSpec : ChangeSpec := { name := "fnExactIsPrefixFree", fn := fun _ => fun
  | [d] => { results := [.lit (.bool true)], args := [d] }
  | _ => none }
def fnExactIsPrefixFreeRow : OpenClaim := { program := "ytimbphkbkhlclaa", sum := "95611a3b6554032dda7789c4ad9ff49134e5a4b51898c396bf54e0e1964f6e84", func := "loop.example/braille/laws.FnExactIsPrefixFree", spec := "fnExactIsPrefixFree", apart := false }
def FnExactIsPrefixFreeSaid : Prop := fnExactIsPrefixFreeRow.holds Try.pinned (OpenSpec.ofChange fnExactIsPrefixFreeSpec)

/-- ITS FALSE NEIGHBOUR: 'it returns false'. Refute it at one input. -/
def fnExactIsPrefixFreeWrong : ChangeSpec := { name := "fnExactIsPrefixFree", fn := fun _ => fun
  | [d] => { results := [.lit (.bool false)], args := [d] }
  | _ => none }
def FnExactIsPrefixFreeWrongFalsely : Prop := fnExactIsPrefixFreeRow.holds Try.pinned (OpenSpec.ofChange fnExactIsPrefixFreeWrong)

/-- 'laws.FnIsPrefixFreeCount': WHATEVER THE INPUT: true; the input reads as it did. -/
def fnIsPrefixFreeCountSpec : ChangeSpec := { name := "fnIsPrefixFreeCount", fn := fun _ => fun
  | [d] => { results := [.lit (.bool true)], args := [d] }
  | _ => none }
def fnIsPrefixFreeCountRow : OpenClaim := { program := "ytimbphkbkhlclaa", sum := "95611a3b6554032dda7789c4ad9ff49134e5a4b51898c396bf54e0e1964f6e84", func := "loop.example/braille/laws.FnIsPrefixFreeCount", spec := "fnIsPrefixFreeCount", apart := false }
def FnIsPrefixFreeCountSaid : Prop := fnIsPrefixFreeCountRow.holds Try.pinned (OpenSpec.ofChange fnIsPrefixFreeCountSpec)

/-- ITS FALSE NEIGHBOUR: 'it returns false'. Refute it at one input. -/
def fnIsPrefixFreeCountWrong : ChangeSpec := { name := "fnIsPrefixFreeCount", fn := fun _ => fun
  | [d] => { results := [.lit (.bool false)], args := [d] }
  | _ => none }
def FnIsPrefixFreeCountWrongFalsely : Prop := fnIsPrefixFreeCountRow.holds Try.pinned (OpenSpec.ofChange fnIsPrefixFreeCountWrong)

/-- 'laws.FnExactIsUnique': WHATEVER THE INPUT: true; the input reads as it did. -/
def fnExactIsUniqueSpec : ChangeSpec := { name := "fnExactIsUnique", fn := fun _ => fun
  | [d] => { results := [.lit (.bool true)], args := [d] }
  | _ => none }
def fnExactIsUniqueRow : OpenClaim := { program := "ytimbphkbkhlclaa", sum := "95611a3b6554032dda7789c4ad9ff49134e5a4b51898c396bf54e0e1964f6e84", func := "loop.example/braille/laws.FnExactIsUnique", spec := "fnExactIsUnique", apart := false }
def FnExactIsUniqueSaid : Prop := fnExactIsUniqueRow.holds Try.pinned (OpenSpec.ofChange fnExactIsUniqueSpec)

/-- ITS FALSE NEIGHBOUR: 'it returns false'. Refute it at one input. -/
def fnExactIsUniqueWrong : ChangeSpec := { name := "fnExactIsUnique", fn := fun _ => fun
  | [d] => { results := [.lit (.bool false)], args := [d] }
  | _ => none }
def FnExactIsUniqueWrongFalsely : Prop := fnExactIsUniqueRow.holds Try.pinned (OpenSpec.ofChange fnExactIsUniqueWrong)

/-- 'laws.FnExactLongestRest': WHATEVER THE INPUT: true; the input reads as it did. -/
def fnExactLongestRestSpec : ChangeSpec := { name := "fnExactLongestRest", fn := fun _ => fun
  | [d] => { results := [.lit (.bool true)], args := [d] }
  | _ => none }
def fnExactLongestRestRow : OpenClaim := { program := "ytimbphkbkhlclaa", sum := "95611a3b6554032dda7789c4ad9ff49134e5a4b51898c396bf54e0e1964f6e84", func := "loop.example/braille/laws.FnExactLongestRest", spec := "fnExactLongestRest", apart := false }
def FnExactLongestRestSaid : Prop := fnExactLongestRestRow.holds Try.pinned (OpenSpec.ofChange fnExactLongestRestSpec)

/-- ITS FALSE NEIGHBOUR: 'it returns false'. Refute it at one input. -/
def fnExactLongestRestWrong : ChangeSpec := { name := "fnExactLongestRest", fn := fun _ => fun
  | [d] => { results := [.lit (.bool false)], args := [d] }
  | _ => none }
def FnExactLongestRestWrongFalsely : Prop := fnExactLongestRestRow.holds Try.pinned (OpenSpec.ofChange fnExactLongestRestWrong)

/-- 'laws.FnIsPrefixFree': WHATEVER THE INPUT: true; the input reads as it did. -/
def fnIsPrefixFreeSpec : ChangeSpec := { name := "fnIsPrefixFree", fn := fun _ => fun
  | [d] => { results := [.lit (.bool true)], args := [d] }
  | _ => none }
def fnIsPrefixFreeRow : OpenClaim := { program := "ytimbphkbkhlclaa", sum := "95611a3b6554032dda7789c4ad9ff49134e5a4b51898c396bf54e0e1964f6e84", func := "loop.example/braille/laws.FnIsPrefixFree", spec := "fnIsPrefixFree", apart := false }
def FnIsPrefixFreeSaid : Prop := fnIsPrefixFreeRow.holds Try.pinned (OpenSpec.ofChange fnIsPrefixFreeSpec)

/-- ITS FALSE NEIGHBOUR: 'it returns false'. Refute it at one input. -/
def fnIsPrefixFreeWrong : ChangeSpec := { name := "fnIsPrefixFree", fn := fun _ => fun
  | [d] => { results := [.lit (.bool false)], args := [d] }
  | _ => none }
def FnIsPrefixFreeWrongFalsely : Prop := fnIsPrefixFreeRow.holds Try.pinned (OpenSpec.ofChange fnIsPrefixFreeWrong)

/-- 'laws.FnLongestRest': WHATEVER THE INPUT: true; the input reads as it did. -/
def fnLongestRestSpec : ChangeSpec := { name := "fnLongestRest", fn := fun _ => fun
  | [d] => { results := [.lit (.bool true)], args := [d] }
  | _ => none }
def fnLongestRestRow : OpenClaim := { program := "ytimbphkbkhlclaa", sum := "95611a3b6554032dda7789c4ad9ff49134e5a4b51898c396bf54e0e1964f6e84", func := "loop.example/braille/laws.FnLongestRest", spec := "fnLongestRest", apart := false }
def FnLongestRestSaid : Prop := fnLongestRestRow.holds Try.pinned (OpenSpec.ofChange fnLongestRestSpec)

/-- ITS FALSE NEIGHBOUR: 'it returns false'. Refute it at one input. -/
def fnLongestRestWrong : ChangeSpec := { name := "fnLongestRest", fn := fun _ => fun
  | [d] => { results := [.lit (.bool false)], args := [d] }
  | _ => none }
def FnLongestRestWrongFalsely : Prop := fnLongestRestRow.holds Try.pinned (OpenSpec.ofChange fnLongestRestWrong)

/-- 'laws.FnIsUniqueCount': WHATEVER THE INPUT: true; the input reads as it did. -/
def fnIsUniqueCountSpec : ChangeSpec := { name := "fnIsUniqueCount", fn := fun _ => fun
  | [d] => { results := [.lit (.bool true)], args := [d] }
  | _ => none }
def fnIsUniqueCountRow : OpenClaim := { program := "ytimbphkbkhlclaa", sum := "95611a3b6554032dda7789c4ad9ff49134e5a4b51898c396bf54e0e1964f6e84", func := "loop.example/braille/laws.FnIsUniqueCount", spec := "fnIsUniqueCount", apart := false }
def FnIsUniqueCountSaid : Prop := fnIsUniqueCountRow.holds Try.pinned (OpenSpec.ofChange fnIsUniqueCountSpec)

/-- ITS FALSE NEIGHBOUR: 'it returns false'. Refute it at one input. -/
def fnIsUniqueCountWrong : ChangeSpec := { name := "fnIsUniqueCount", fn := fun _ => fun
  | [d] => { results := [.lit (.bool false)], args := [d] }
  | _ => none }
def FnIsUniqueCountWrongFalsely : Prop := fnIsUniqueCountRow.holds Try.pinned (OpenSpec.ofChange fnIsUniqueCountWrong)

/- THE SECOND FORM. 'bulk': how many values and letters a reading holds, each counted each time it is reached (what is shared counts as often as it is met; a slice's spare places count too). A statement '..UptoSaid' is the law's where the arguments, and the package variables that the reading takes, are together of bulk at most 1048576: NARROWER than '..Said'. Prove '..Said' where nothing that the law and all that it calls make is longer than what came in: it says more and counts as full. Else prove '..UptoSaid'. A law counts once. -/
mutual
def uptoBulk {H : Type} : DataW H → Nat
  | .lit (.string bytes) => bytes.length + 1
  | .lit _ => 1
  | .nil => 1
  | .ptr d => uptoBulk d + 1
  | .slice elems spare => uptoBulkAll elems + uptoBulkAll spare + 1
  | .agg parts => uptoBulkAll parts + 1
  | .iface _ d => uptoBulk d + 1
  | .map entries => uptoBulkEntries entries + 1
  | .held _ => 1
def uptoBulkAll {H : Type} : List (DataW H) → Nat
  | [] => 0
  | d :: r => uptoBulk d + uptoBulkAll r
def uptoBulkEntries {H : Type} : List (Lit × DataW H) → Nat
  | [] => 0
  | x :: r => uptoBulkEntry x + uptoBulkEntries r
def uptoBulkEntry {H : Type} : Lit × DataW H → Nat
  | (.string bytes, d) => bytes.length + uptoBulk d + 1
  | (_, d) => uptoBulk d + 1
 end
def uptoSmall : (H : Type) → List (DataW H) → Bool := fun _ ds => decide (uptoBulkAll ds ≤ 1048576)
def OpenSpec.upto (s : _root_.Go.ChangeSpec) : _root_.Go.OpenSpec := { _root_.Go.OpenSpec.ofChange s with cond := some uptoSmall }

/-- 'laws.FnExactValidCode', WHERE WHAT IT READS IS OF BULK AT MOST 1048576: true; the input reads as it did. -/
def fnExactValidCodeUptoRow : OpenClaim := { program := "ytimbphkbkhlclaa", sum := "95611a3b6554032dda7789c4ad9ff49134e5a4b51898c396bf54e0e1964f6e84", func := "loop.example/braille/laws.FnExactValidCode", spec := "fnExactValidCode", apart := false, narrowed := true }
def FnExactValidCodeUptoSaid : Prop := fnExactValidCodeUptoRow.holds Try.pinned (OpenSpec.upto fnExactValidCodeSpec)

/-- 'laws.FnValidCode', WHERE WHAT IT READS IS OF BULK AT MOST 1048576: true; the input reads as it did. -/
def fnValidCodeUptoRow : OpenClaim := { program := "ytimbphkbkhlclaa", sum := "95611a3b6554032dda7789c4ad9ff49134e5a4b51898c396bf54e0e1964f6e84", func := "loop.example/braille/laws.FnValidCode", spec := "fnValidCode", apart := false, narrowed := true }
def FnValidCodeUptoSaid : Prop := fnValidCodeUptoRow.holds Try.pinned (OpenSpec.upto fnValidCodeSpec)

/-- 'laws.FnExactFactorCount', WHERE WHAT IT READS IS OF BULK AT MOST 1048576: true; the input reads as it did. -/
def fnExactFactorCountUptoRow : OpenClaim := { program := "ytimbphkbkhlclaa", sum := "95611a3b6554032dda7789c4ad9ff49134e5a4b51898c396bf54e0e1964f6e84", func := "loop.example/braille/laws.FnExactFactorCount", spec := "fnExactFactorCount", apart := false, narrowed := true }
def FnExactFactorCountUptoSaid : Prop := fnExactFactorCountUptoRow.holds Try.pinned (OpenSpec.upto fnExactFactorCountSpec)

/-- 'laws.FnFactorCount', WHERE WHAT IT READS IS OF BULK AT MOST 1048576: true; the input reads as it did. -/
def fnFactorCountUptoRow : OpenClaim := { program := "ytimbphkbkhlclaa", sum := "95611a3b6554032dda7789c4ad9ff49134e5a4b51898c396bf54e0e1964f6e84", func := "loop.example/braille/laws.FnFactorCount", spec := "fnFactorCount", apart := false, narrowed := true }
def FnFactorCountUptoSaid : Prop := fnFactorCountUptoRow.holds Try.pinned (OpenSpec.upto fnFactorCountSpec)

/-- 'laws.FnFactorCountFirst', WHERE WHAT IT READS IS OF BULK AT MOST 1048576: true; the input reads as it did. -/
def fnFactorCountFirstUptoRow : OpenClaim := { program := "ytimbphkbkhlclaa", sum := "95611a3b6554032dda7789c4ad9ff49134e5a4b51898c396bf54e0e1964f6e84", func := "loop.example/braille/laws.FnFactorCountFirst", spec := "fnFactorCountFirst", apart := false, narrowed := true }
def FnFactorCountFirstUptoSaid : Prop := fnFactorCountFirstUptoRow.holds Try.pinned (OpenSpec.upto fnFactorCountFirstSpec)

/-- 'laws.FnExactIsPrefixFree', WHERE WHAT IT READS IS OF BULK AT MOST 1048576: true; the input reads as it did. -/
def fnExactIsPrefixFreeUptoRow : OpenClaim := { program := "ytimbphkbkhlclaa", sum := "95611a3b6554032dda7789c4ad9ff49134e5a4b51898c396bf54e0e1964f6e84", func := "loop.example/braille/laws.FnExactIsPrefixFree", spec := "fnExactIsPrefixFree", apart := false, narrowed := true }
def FnExactIsPrefixFreeUptoSaid : Prop := fnExactIsPrefixFreeUptoRow.holds Try.pinned (OpenSpec.upto fnExactIsPrefixFreeSpec)

/-- 'laws.FnIsPrefixFreeCount', WHERE WHAT IT READS IS OF BULK AT MOST 1048576: true; the input reads as it did. -/
def fnIsPrefixFreeCountUptoRow : OpenClaim := { program := "ytimbphkbkhlclaa", sum := "95611a3b6554032dda7789c4ad9ff49134e5a4b51898c396bf54e0e1964f6e84", func := "loop.example/braille/laws.FnIsPrefixFreeCount", spec := "fnIsPrefixFreeCount", apart := false, narrowed := true }
def FnIsPrefixFreeCountUptoSaid : Prop := fnIsPrefixFreeCountUptoRow.holds Try.pinned (OpenSpec.upto fnIsPrefixFreeCountSpec)

/-- 'laws.FnExactIsUnique', WHERE WHAT IT READS IS OF BULK AT MOST 1048576: true; the input reads as it did. -/
def fnExactIsUniqueUptoRow : OpenClaim := { program := "ytimbphkbkhlclaa", sum := "95611a3b6554032dda7789c4ad9ff49134e5a4b51898c396bf54e0e1964f6e84", func := "loop.example/braille/laws.FnExactIsUnique", spec := "fnExactIsUnique", apart := false, narrowed := true }
def FnExactIsUniqueUptoSaid : Prop := fnExactIsUniqueUptoRow.holds Try.pinned (OpenSpec.upto fnExactIsUniqueSpec)

/-- 'laws.FnExactLongestRest', WHERE WHAT IT READS IS OF BULK AT MOST 1048576: true; the input reads as it did. -/
def fnExactLongestRestUptoRow : OpenClaim := { program := "ytimbphkbkhlclaa", sum := "95611a3b6554032dda7789c4ad9ff49134e5a4b51898c396bf54e0e1964f6e84", func := "loop.example/braille/laws.FnExactLongestRest", spec := "fnExactLongestRest", apart := false, narrowed := true }
def FnExactLongestRestUptoSaid : Prop := fnExactLongestRestUptoRow.holds Try.pinned (OpenSpec.upto fnExactLongestRestSpec)

/-- 'laws.FnIsPrefixFree', WHERE WHAT IT READS IS OF BULK AT MOST 1048576: true; the input reads as it did. -/
def fnIsPrefixFreeUptoRow : OpenClaim := { program := "ytimbphkbkhlclaa", sum := "95611a3b6554032dda7789c4ad9ff49134e5a4b51898c396bf54e0e1964f6e84", func := "loop.example/braille/laws.FnIsPrefixFree", spec := "fnIsPrefixFree", apart := false, narrowed := true }
def FnIsPrefixFreeUptoSaid : Prop := fnIsPrefixFreeUptoRow.holds Try.pinned (OpenSpec.upto fnIsPrefixFreeSpec)

/-- 'laws.FnLongestRest', WHERE WHAT IT READS IS OF BULK AT MOST 1048576: true; the input reads as it did. -/
def fnLongestRestUptoRow : OpenClaim := { program := "ytimbphkbkhlclaa", sum := "95611a3b6554032dda7789c4ad9ff49134e5a4b51898c396bf54e0e1964f6e84", func := "loop.example/braille/laws.FnLongestRest", spec := "fnLongestRest", apart := false, narrowed := true }
def FnLongestRestUptoSaid : Prop := fnLongestRestUptoRow.holds Try.pinned (OpenSpec.upto fnLongestRestSpec)

/-- 'laws.FnIsUniqueCount', WHERE WHAT IT READS IS OF BULK AT MOST 1048576: true; the input reads as it did. -/
def fnIsUniqueCountUptoRow : OpenClaim := { program := "ytimbphkbkhlclaa", sum := "95611a3b6554032dda7789c4ad9ff49134e5a4b51898c396bf54e0e1964f6e84", func := "loop.example/braille/laws.FnIsUniqueCount", spec := "fnIsUniqueCount", apart := false, narrowed := true }
def FnIsUniqueCountUptoSaid : Prop := fnIsUniqueCountUptoRow.holds Try.pinned (OpenSpec.upto fnIsUniqueCountSpec)

end Rows
end Go.Proofs.Ytimbphkbkhlclaa
