/-
  No cell of these rows narrows 'for every input' (looked for: loops, veiled, ifaces, maps, wideKeys, modest, calm, conditions, laid).
  DERIVED. THE GIVEN ROWS OF THIS SEAT. 8 by the template 'for every input the law returns true; each argument reads behind the call as it read before'; 0 by the template 'total and deterministic' (their statements: YtabmeakjbhiklaaTotals.lean).
  GIVEN WITH THE SEED: the statements are not yours to turn. If you find one false, say at which input.
  Laid BY PROGRAM, IN A SANDBOX (cutbox-rows.mjs): the forced cells as the released guide's own fill.sh prints them over the translation 6e011c780e0d932d… (all of the seat's roots in one cut). By AI agents, Wed Nov 11 2026. No macro, syntax, notation, axiom, sorry.
-/
import Derived.Test.YtabmeakjbhiklaaChecked
import GoSem.Claim
import GoSem.ClaimJoined
import GoSem.ClaimMapViews
import Derived.JoinedTies
import Derived.KernelRfl
namespace Go.Proofs.Ytabmeakjbhiklaa
/- THE CELL 'sum', in the pinned program and in every row, IS THE sha256 OF THE DUMP (.gsa) THAT YtabmeakjbhiklaaProg.lean LOADS. Nothing in Lean hashes anything: it is a label: what it is worth is what the hold of that sum in a sandbox is worth. -/
noncomputable def Try.pinned : Pinned := { name := "ytabmeakjbhiklaa", sum := "6e011c780e0d932d7802f3c78fad585b744afbe295ac44d9d807287ca4a2073b", checked := Try.checked }
namespace Rows
def none {H : Type} : Left H := { results := [], args := [] }

/-- 'laws.FnExactPlainCells': WHATEVER THE INPUT: true; the input reads as it did. -/
def fnExactPlainCellsSpec : ChangeSpec := { name := "fnExactPlainCells", fn := fun _ => fun
  | [d] => { results := [.lit (.bool true)], args := [d] }
  | _ => none }
def fnExactPlainCellsRow : OpenClaim := { program := "ytabmeakjbhiklaa", sum := "6e011c780e0d932d7802f3c78fad585b744afbe295ac44d9d807287ca4a2073b", func := "loop.example/braille/laws.FnExactPlainCells", spec := "fnExactPlainCells", apart := false }
def FnExactPlainCellsSaid : Prop := fnExactPlainCellsRow.holds Try.pinned (OpenSpec.ofChange fnExactPlainCellsSpec)

/-- ITS FALSE NEIGHBOUR: 'it returns false'. Refute it at one input. -/
def fnExactPlainCellsWrong : ChangeSpec := { name := "fnExactPlainCells", fn := fun _ => fun
  | [d] => { results := [.lit (.bool false)], args := [d] }
  | _ => none }
def FnExactPlainCellsWrongFalsely : Prop := fnExactPlainCellsRow.holds Try.pinned (OpenSpec.ofChange fnExactPlainCellsWrong)

/-- 'laws.FnPlainCells': WHATEVER THE INPUT: true; the input reads as it did. -/
def fnPlainCellsSpec : ChangeSpec := { name := "fnPlainCells", fn := fun _ => fun
  | [d] => { results := [.lit (.bool true)], args := [d] }
  | _ => none }
def fnPlainCellsRow : OpenClaim := { program := "ytabmeakjbhiklaa", sum := "6e011c780e0d932d7802f3c78fad585b744afbe295ac44d9d807287ca4a2073b", func := "loop.example/braille/laws.FnPlainCells", spec := "fnPlainCells", apart := false }
def FnPlainCellsSaid : Prop := fnPlainCellsRow.holds Try.pinned (OpenSpec.ofChange fnPlainCellsSpec)

/-- ITS FALSE NEIGHBOUR: 'it returns false'. Refute it at one input. -/
def fnPlainCellsWrong : ChangeSpec := { name := "fnPlainCells", fn := fun _ => fun
  | [d] => { results := [.lit (.bool false)], args := [d] }
  | _ => none }
def FnPlainCellsWrongFalsely : Prop := fnPlainCellsRow.holds Try.pinned (OpenSpec.ofChange fnPlainCellsWrong)

/-- 'laws.FnPlainCellsLength': WHATEVER THE INPUT: true; the input reads as it did. -/
def fnPlainCellsLengthSpec : ChangeSpec := { name := "fnPlainCellsLength", fn := fun _ => fun
  | [d] => { results := [.lit (.bool true)], args := [d] }
  | _ => none }
def fnPlainCellsLengthRow : OpenClaim := { program := "ytabmeakjbhiklaa", sum := "6e011c780e0d932d7802f3c78fad585b744afbe295ac44d9d807287ca4a2073b", func := "loop.example/braille/laws.FnPlainCellsLength", spec := "fnPlainCellsLength", apart := false }
def FnPlainCellsLengthSaid : Prop := fnPlainCellsLengthRow.holds Try.pinned (OpenSpec.ofChange fnPlainCellsLengthSpec)

/-- ITS FALSE NEIGHBOUR: 'it returns false'. Refute it at one input. -/
def fnPlainCellsLengthWrong : ChangeSpec := { name := "fnPlainCellsLength", fn := fun _ => fun
  | [d] => { results := [.lit (.bool false)], args := [d] }
  | _ => none }
def FnPlainCellsLengthWrongFalsely : Prop := fnPlainCellsLengthRow.holds Try.pinned (OpenSpec.ofChange fnPlainCellsLengthWrong)

/-- 'laws.FnPlainCellsSpace': WHATEVER THE INPUT: true; the input reads as it did. -/
def fnPlainCellsSpaceSpec : ChangeSpec := { name := "fnPlainCellsSpace", fn := fun _ => fun
  | [d] => { results := [.lit (.bool true)], args := [d] }
  | _ => none }
def fnPlainCellsSpaceRow : OpenClaim := { program := "ytabmeakjbhiklaa", sum := "6e011c780e0d932d7802f3c78fad585b744afbe295ac44d9d807287ca4a2073b", func := "loop.example/braille/laws.FnPlainCellsSpace", spec := "fnPlainCellsSpace", apart := false }
def FnPlainCellsSpaceSaid : Prop := fnPlainCellsSpaceRow.holds Try.pinned (OpenSpec.ofChange fnPlainCellsSpaceSpec)

/-- ITS FALSE NEIGHBOUR: 'it returns false'. Refute it at one input. -/
def fnPlainCellsSpaceWrong : ChangeSpec := { name := "fnPlainCellsSpace", fn := fun _ => fun
  | [d] => { results := [.lit (.bool false)], args := [d] }
  | _ => none }
def FnPlainCellsSpaceWrongFalsely : Prop := fnPlainCellsSpaceRow.holds Try.pinned (OpenSpec.ofChange fnPlainCellsSpaceWrong)

/-- 'laws.FnPlainCellsSigns': WHATEVER THE INPUT: true; the input reads as it did. -/
def fnPlainCellsSignsSpec : ChangeSpec := { name := "fnPlainCellsSigns", fn := fun _ => fun
  | [d] => { results := [.lit (.bool true)], args := [d] }
  | _ => none }
def fnPlainCellsSignsRow : OpenClaim := { program := "ytabmeakjbhiklaa", sum := "6e011c780e0d932d7802f3c78fad585b744afbe295ac44d9d807287ca4a2073b", func := "loop.example/braille/laws.FnPlainCellsSigns", spec := "fnPlainCellsSigns", apart := false }
def FnPlainCellsSignsSaid : Prop := fnPlainCellsSignsRow.holds Try.pinned (OpenSpec.ofChange fnPlainCellsSignsSpec)

/-- ITS FALSE NEIGHBOUR: 'it returns false'. Refute it at one input. -/
def fnPlainCellsSignsWrong : ChangeSpec := { name := "fnPlainCellsSigns", fn := fun _ => fun
  | [d] => { results := [.lit (.bool false)], args := [d] }
  | _ => none }
def FnPlainCellsSignsWrongFalsely : Prop := fnPlainCellsSignsRow.holds Try.pinned (OpenSpec.ofChange fnPlainCellsSignsWrong)

/-- 'laws.FnExactPlainText': WHATEVER THE INPUT: true; the input reads as it did. -/
def fnExactPlainTextSpec : ChangeSpec := { name := "fnExactPlainText", fn := fun _ => fun
  | [d] => { results := [.lit (.bool true)], args := [d] }
  | _ => none }
def fnExactPlainTextRow : OpenClaim := { program := "ytabmeakjbhiklaa", sum := "6e011c780e0d932d7802f3c78fad585b744afbe295ac44d9d807287ca4a2073b", func := "loop.example/braille/laws.FnExactPlainText", spec := "fnExactPlainText", apart := false }
def FnExactPlainTextSaid : Prop := fnExactPlainTextRow.holds Try.pinned (OpenSpec.ofChange fnExactPlainTextSpec)

/-- ITS FALSE NEIGHBOUR: 'it returns false'. Refute it at one input. -/
def fnExactPlainTextWrong : ChangeSpec := { name := "fnExactPlainText", fn := fun _ => fun
  | [d] => { results := [.lit (.bool false)], args := [d] }
  | _ => none }
def FnExactPlainTextWrongFalsely : Prop := fnExactPlainTextRow.holds Try.pinned (OpenSpec.ofChange fnExactPlainTextWrong)

/-- 'laws.FnPlainText': WHATEVER THE INPUT: true; the input reads as it did. -/
def fnPlainTextSpec : ChangeSpec := { name := "fnPlainText", fn := fun _ => fun
  | [d] => { results := [.lit (.bool true)], args := [d] }
  | _ => none }
def fnPlainTextRow : OpenClaim := { program := "ytabmeakjbhiklaa", sum := "6e011c780e0d932d7802f3c78fad585b744afbe295ac44d9d807287ca4a2073b", func := "loop.example/braille/laws.FnPlainText", spec := "fnPlainText", apart := false }
def FnPlainTextSaid : Prop := fnPlainTextRow.holds Try.pinned (OpenSpec.ofChange fnPlainTextSpec)

/-- ITS FALSE NEIGHBOUR: 'it returns false'. Refute it at one input. -/
def fnPlainTextWrong : ChangeSpec := { name := "fnPlainText", fn := fun _ => fun
  | [d] => { results := [.lit (.bool false)], args := [d] }
  | _ => none }
def FnPlainTextWrongFalsely : Prop := fnPlainTextRow.holds Try.pinned (OpenSpec.ofChange fnPlainTextWrong)

/-- 'laws.FnPlainTextSpaces': WHATEVER THE INPUT: true; the input reads as it did. -/
def fnPlainTextSpacesSpec : ChangeSpec := { name := "fnPlainTextSpaces", fn := fun _ => fun
  | [d] => { results := [.lit (.bool true)], args := [d] }
  | _ => none }
def fnPlainTextSpacesRow : OpenClaim := { program := "ytabmeakjbhiklaa", sum := "6e011c780e0d932d7802f3c78fad585b744afbe295ac44d9d807287ca4a2073b", func := "loop.example/braille/laws.FnPlainTextSpaces", spec := "fnPlainTextSpaces", apart := false }
def FnPlainTextSpacesSaid : Prop := fnPlainTextSpacesRow.holds Try.pinned (OpenSpec.ofChange fnPlainTextSpacesSpec)

/-- ITS FALSE NEIGHBOUR: 'it returns false'. Refute it at one input. -/
def fnPlainTextSpacesWrong : ChangeSpec := { name := "fnPlainTextSpaces", fn := fun _ => fun
  | [d] => { results := [.lit (.bool false)], args := [d] }
  | _ => none }
def FnPlainTextSpacesWrongFalsely : Prop := fnPlainTextSpacesRow.holds Try.pinned (OpenSpec.ofChange fnPlainTextSpacesWrong)

/- THE SECOND FORM. 'bulk': how many values and letters a reading holds, each counted each time it is reached (what is shared counts as often as it is met; a slice's spare places count too). A statement '..UptoSaid' is the law's where the arguments, and the package variables that the reading takes, are together of bulk at most 1048576: NARROWER than '..Said'. Prove '..Said' where nothing that the law and all that it calls make is longer than what came in: it says more and counts as full. Else prove '..UptoSaid'. A law counts once. -/
mutual
def uptoBulk {H : Type} : DataW H → Nat
  | .lit (.string bytes) => bytes.length + 1
  | .lit _ => 1
  | .nil => 1
  | .ptr d => uptoBulk d + 1
  | .slice elems spare => uptoBulkAll elems + uptoBulkAll spare + 1
  | .agg parts => uptoBulkAll parts + 1
  | .iface _ d => uptoBulk d + 1
  | .map entries => uptoBulkEntries entries + 1
  | .held _ => 1
def uptoBulkAll {H : Type} : List (DataW H) → Nat
  | [] => 0
  | d :: r => uptoBulk d + uptoBulkAll r
def uptoBulkEntries {H : Type} : List (Lit × DataW H) → Nat
  | [] => 0
  | x :: r => uptoBulkEntry x + uptoBulkEntries r
def uptoBulkEntry {H : Type} : Lit × DataW H → Nat
  | (.string bytes, d) => bytes.length + uptoBulk d + 1
  | (_, d) => uptoBulk d + 1
 end
def uptoSmall : (H : Type) → List (DataW H) → Bool := fun _ ds => decide (uptoBulkAll ds ≤ 1048576)
def OpenSpec.upto (s : _root_.Go.ChangeSpec) : _root_.Go.OpenSpec := { _root_.Go.OpenSpec.ofChange s with cond := some uptoSmall }

/-- 'laws.FnExactPlainCells', WHERE WHAT IT READS IS OF BULK AT MOST 1048576: true; the input reads as it did. -/
def fnExactPlainCellsUptoRow : OpenClaim := { program := "ytabmeakjbhiklaa", sum := "6e011c780e0d932d7802f3c78fad585b744afbe295ac44d9d807287ca4a2073b", func := "loop.example/braille/laws.FnExactPlainCells", spec := "fnExactPlainCells", apart := false, narrowed := true }
def FnExactPlainCellsUptoSaid : Prop := fnExactPlainCellsUptoRow.holds Try.pinned (OpenSpec.upto fnExactPlainCellsSpec)

/-- 'laws.FnPlainCells', WHERE WHAT IT READS IS OF BULK AT MOST 1048576: true; the input reads as it did. -/
def fnPlainCellsUptoRow : OpenClaim := { program := "ytabmeakjbhiklaa", sum := "6e011c780e0d932d7802f3c78fad585b744afbe295ac44d9d807287ca4a2073b", func := "loop.example/braille/laws.FnPlainCells", spec := "fnPlainCells", apart := false, narrowed := true }
def FnPlainCellsUptoSaid : Prop := fnPlainCellsUptoRow.holds Try.pinned (OpenSpec.upto fnPlainCellsSpec)

/-- 'laws.FnPlainCellsLength', WHERE WHAT IT READS IS OF BULK AT MOST 1048576: true; the input reads as it did. -/
def fnPlainCellsLengthUptoRow : OpenClaim := { program := "ytabmeakjbhiklaa", sum := "6e011c780e0d932d7802f3c78fad585b744afbe295ac44d9d807287ca4a2073b", func := "loop.example/braille/laws.FnPlainCellsLength", spec := "fnPlainCellsLength", apart := false, narrowed := true }
def FnPlainCellsLengthUptoSaid : Prop := fnPlainCellsLengthUptoRow.holds Try.pinned (OpenSpec.upto fnPlainCellsLengthSpec)

/-- 'laws.FnPlainCellsSpace', WHERE WHAT IT READS IS OF BULK AT MOST 1048576: true; the input reads as it did. -/
def fnPlainCellsSpaceUptoRow : OpenClaim := { program := "ytabmeakjbhiklaa", sum := "6e011c780e0d932d7802f3c78fad585b744afbe295ac44d9d807287ca4a2073b", func := "loop.example/braille/laws.FnPlainCellsSpace", spec := "fnPlainCellsSpace", apart := false, narrowed := true }
def FnPlainCellsSpaceUptoSaid : Prop := fnPlainCellsSpaceUptoRow.holds Try.pinned (OpenSpec.upto fnPlainCellsSpaceSpec)

/-- 'laws.FnPlainCellsSigns', WHERE WHAT IT READS IS OF BULK AT MOST 1048576: true; the input reads as it did. -/
def fnPlainCellsSignsUptoRow : OpenClaim := { program := "ytabmeakjbhiklaa", sum := "6e011c780e0d932d7802f3c78fad585b744afbe295ac44d9d807287ca4a2073b", func := "loop.example/braille/laws.FnPlainCellsSigns", spec := "fnPlainCellsSigns", apart := false, narrowed := true }
def FnPlainCellsSignsUptoSaid : Prop := fnPlainCellsSignsUptoRow.holds Try.pinned (OpenSpec.upto fnPlainCellsSignsSpec)

/-- 'laws.FnExactPlainText', WHERE WHAT IT READS IS OF BULK AT MOST 1048576: true; the input reads as it did. -/
def fnExactPlainTextUptoRow : OpenClaim := { program := "ytabmeakjbhiklaa", sum := "6e011c780e0d932d7802f3c78fad585b744afbe295ac44d9d807287ca4a2073b", func := "loop.example/braille/laws.FnExactPlainText", spec := "fnExactPlainText", apart := false, narrowed := true }
def FnExactPlainTextUptoSaid : Prop := fnExactPlainTextUptoRow.holds Try.pinned (OpenSpec.upto fnExactPlainTextSpec)

/-- 'laws.FnPlainText', WHERE WHAT IT READS IS OF BULK AT MOST 1048576: true; the input reads as it did. -/
def fnPlainTextUptoRow : OpenClaim := { program := "ytabmeakjbhiklaa", sum := "6e011c780e0d932d7802f3c78fad585b744afbe295ac44d9d807287ca4a2073b", func := "loop.example/braille/laws.FnPlainText", spec := "fnPlainText", apart := false, narrowed := true }
def FnPlainTextUptoSaid : Prop := fnPlainTextUptoRow.holds Try.pinned (OpenSpec.upto fnPlainTextSpec)

/-- 'laws.FnPlainTextSpaces', WHERE WHAT IT READS IS OF BULK AT MOST 1048576: true; the input reads as it did. -/
def fnPlainTextSpacesUptoRow : OpenClaim := { program := "ytabmeakjbhiklaa", sum := "6e011c780e0d932d7802f3c78fad585b744afbe295ac44d9d807287ca4a2073b", func := "loop.example/braille/laws.FnPlainTextSpaces", spec := "fnPlainTextSpaces", apart := false, narrowed := true }
def FnPlainTextSpacesUptoSaid : Prop := fnPlainTextSpacesUptoRow.holds Try.pinned (OpenSpec.upto fnPlainTextSpacesSpec)

end Rows
end Go.Proofs.Ytabmeakjbhiklaa
