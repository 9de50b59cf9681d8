/-
  No cell of these rows narrows 'for every input' (looked for: loops, veiled, ifaces, maps, wideKeys, modest, calm, conditions, laid).
  DERIVED. THE GIVEN ROWS OF THIS SEAT. 6 by the template 'for every input the law returns true; each argument reads behind the call as it read before'; 0 by the template 'total and deterministic' (their statements: YthojahknocageaaTotals.lean).
  GIVEN WITH THE SEED: the statements are not yours to turn. If you find one false, say at which input.
  Laid BY PROGRAM, IN A SANDBOX (cutbox-rows.mjs): the forced cells as the released guide's own fill.sh prints them over the translation 6a451292881476a0… (all of the seat's roots in one cut). By AI agents, Wed Nov 11 2026. No macro, syntax, notation, axiom, sorry.
-/
import Derived.Test.YthojahknocageaaChecked
import GoSem.Claim
import GoSem.ClaimJoined
import GoSem.ClaimMapViews
import Derived.JoinedTies
import Derived.KernelRfl
namespace Go.Proofs.Ythojahknocageaa
/- THE CELL 'sum', in the pinned program and in every row, IS THE sha256 OF THE DUMP (.gsa) THAT YthojahknocageaaProg.lean LOADS. Nothing in Lean hashes anything: it is a label: what it is worth is what the hold of that sum in a sandbox is worth. -/
noncomputable def Try.pinned : Pinned := { name := "ythojahknocageaa", sum := "6a451292881476a0c5b34f018010e10cfe69dd1cfd0224c87cdb9386f7241041", checked := Try.checked }
namespace Rows
def none {H : Type} : Left H := { results := [], args := [] }

/-- 'laws.FnAsciiOf': WHATEVER THE INPUT: true; the input reads as it did. -/
def fnAsciiOfSpec : ChangeSpec := { name := "fnAsciiOf", fn := fun _ => fun
  | [d] => { results := [.lit (.bool true)], args := [d] }
  | _ => none }
def fnAsciiOfRow : OpenClaim := { program := "ythojahknocageaa", sum := "6a451292881476a0c5b34f018010e10cfe69dd1cfd0224c87cdb9386f7241041", func := "loop.example/braille/laws.FnAsciiOf", spec := "fnAsciiOf", apart := false }
def FnAsciiOfSaid : Prop := fnAsciiOfRow.holds Try.pinned (OpenSpec.ofChange fnAsciiOfSpec)

/-- ITS FALSE NEIGHBOUR: 'it returns false'. Refute it at one input. -/
def fnAsciiOfWrong : ChangeSpec := { name := "fnAsciiOf", fn := fun _ => fun
  | [d] => { results := [.lit (.bool false)], args := [d] }
  | _ => none }
def FnAsciiOfWrongFalsely : Prop := fnAsciiOfRow.holds Try.pinned (OpenSpec.ofChange fnAsciiOfWrong)

/-- 'laws.FnCellsOfAscii': WHATEVER THE INPUT: true; the input reads as it did. -/
def fnCellsOfAsciiSpec : ChangeSpec := { name := "fnCellsOfAscii", fn := fun _ => fun
  | [d] => { results := [.lit (.bool true)], args := [d] }
  | _ => none }
def fnCellsOfAsciiRow : OpenClaim := { program := "ythojahknocageaa", sum := "6a451292881476a0c5b34f018010e10cfe69dd1cfd0224c87cdb9386f7241041", func := "loop.example/braille/laws.FnCellsOfAscii", spec := "fnCellsOfAscii", apart := false }
def FnCellsOfAsciiSaid : Prop := fnCellsOfAsciiRow.holds Try.pinned (OpenSpec.ofChange fnCellsOfAsciiSpec)

/-- ITS FALSE NEIGHBOUR: 'it returns false'. Refute it at one input. -/
def fnCellsOfAsciiWrong : ChangeSpec := { name := "fnCellsOfAscii", fn := fun _ => fun
  | [d] => { results := [.lit (.bool false)], args := [d] }
  | _ => none }
def FnCellsOfAsciiWrongFalsely : Prop := fnCellsOfAsciiRow.holds Try.pinned (OpenSpec.ofChange fnCellsOfAsciiWrong)

/-- 'laws.FnAsciiOfLetters': WHATEVER THE INPUT: true; the input reads as it did. -/
def fnAsciiOfLettersSpec : ChangeSpec := { name := "fnAsciiOfLetters", fn := fun _ => fun
  | [d] => { results := [.lit (.bool true)], args := [d] }
  | _ => none }
def fnAsciiOfLettersRow : OpenClaim := { program := "ythojahknocageaa", sum := "6a451292881476a0c5b34f018010e10cfe69dd1cfd0224c87cdb9386f7241041", func := "loop.example/braille/laws.FnAsciiOfLetters", spec := "fnAsciiOfLetters", apart := false }
def FnAsciiOfLettersSaid : Prop := fnAsciiOfLettersRow.holds Try.pinned (OpenSpec.ofChange fnAsciiOfLettersSpec)

/-- ITS FALSE NEIGHBOUR: 'it returns false'. Refute it at one input. -/
def fnAsciiOfLettersWrong : ChangeSpec := { name := "fnAsciiOfLetters", fn := fun _ => fun
  | [d] => { results := [.lit (.bool false)], args := [d] }
  | _ => none }
def FnAsciiOfLettersWrongFalsely : Prop := fnAsciiOfLettersRow.holds Try.pinned (OpenSpec.ofChange fnAsciiOfLettersWrong)

/-- 'laws.FnAsciiOfParts': WHATEVER THE INPUT: true; the input reads as it did. -/
def fnAsciiOfPartsSpec : ChangeSpec := { name := "fnAsciiOfParts", fn := fun _ => fun
  | [d] => { results := [.lit (.bool true)], args := [d] }
  | _ => none }
def fnAsciiOfPartsRow : OpenClaim := { program := "ythojahknocageaa", sum := "6a451292881476a0c5b34f018010e10cfe69dd1cfd0224c87cdb9386f7241041", func := "loop.example/braille/laws.FnAsciiOfParts", spec := "fnAsciiOfParts", apart := false }
def FnAsciiOfPartsSaid : Prop := fnAsciiOfPartsRow.holds Try.pinned (OpenSpec.ofChange fnAsciiOfPartsSpec)

/-- ITS FALSE NEIGHBOUR: 'it returns false'. Refute it at one input. -/
def fnAsciiOfPartsWrong : ChangeSpec := { name := "fnAsciiOfParts", fn := fun _ => fun
  | [d] => { results := [.lit (.bool false)], args := [d] }
  | _ => none }
def FnAsciiOfPartsWrongFalsely : Prop := fnAsciiOfPartsRow.holds Try.pinned (OpenSpec.ofChange fnAsciiOfPartsWrong)

/-- 'laws.FnExactAsciiOf': WHATEVER THE INPUT: true; the input reads as it did. -/
def fnExactAsciiOfSpec : ChangeSpec := { name := "fnExactAsciiOf", fn := fun _ => fun
  | [d] => { results := [.lit (.bool true)], args := [d] }
  | _ => none }
def fnExactAsciiOfRow : OpenClaim := { program := "ythojahknocageaa", sum := "6a451292881476a0c5b34f018010e10cfe69dd1cfd0224c87cdb9386f7241041", func := "loop.example/braille/laws.FnExactAsciiOf", spec := "fnExactAsciiOf", apart := false }
def FnExactAsciiOfSaid : Prop := fnExactAsciiOfRow.holds Try.pinned (OpenSpec.ofChange fnExactAsciiOfSpec)

/-- ITS FALSE NEIGHBOUR: 'it returns false'. Refute it at one input. -/
def fnExactAsciiOfWrong : ChangeSpec := { name := "fnExactAsciiOf", fn := fun _ => fun
  | [d] => { results := [.lit (.bool false)], args := [d] }
  | _ => none }
def FnExactAsciiOfWrongFalsely : Prop := fnExactAsciiOfRow.holds Try.pinned (OpenSpec.ofChange fnExactAsciiOfWrong)

/-- 'laws.FnExactCellsOfAscii': WHATEVER THE INPUT: true; the input reads as it did. -/
def fnExactCellsOfAsciiSpec : ChangeSpec := { name := "fnExactCellsOfAscii", fn := fun _ => fun
  | [d] => { results := [.lit (.bool true)], args := [d] }
  | _ => none }
def fnExactCellsOfAsciiRow : OpenClaim := { program := "ythojahknocageaa", sum := "6a451292881476a0c5b34f018010e10cfe69dd1cfd0224c87cdb9386f7241041", func := "loop.example/braille/laws.FnExactCellsOfAscii", spec := "fnExactCellsOfAscii", apart := false }
def FnExactCellsOfAsciiSaid : Prop := fnExactCellsOfAsciiRow.holds Try.pinned (OpenSpec.ofChange fnExactCellsOfAsciiSpec)

/-- ITS FALSE NEIGHBOUR: 'it returns false'. Refute it at one input. -/
def fnExactCellsOfAsciiWrong : ChangeSpec := { name := "fnExactCellsOfAscii", fn := fun _ => fun
  | [d] => { results := [.lit (.bool false)], args := [d] }
  | _ => none }
def FnExactCellsOfAsciiWrongFalsely : Prop := fnExactCellsOfAsciiRow.holds Try.pinned (OpenSpec.ofChange fnExactCellsOfAsciiWrong)

/- THE SECOND FORM. 'bulk': how many values and letters a reading holds, each counted each time it is reached (what is shared counts as often as it is met; a slice's spare places count too). A statement '..UptoSaid' is the law's where the arguments, and the package variables that the reading takes, are together of bulk at most 1048576: NARROWER than '..Said'. Prove '..Said' where nothing that the law and all that it calls make is longer than what came in: it says more and counts as full. Else prove '..UptoSaid'. A law counts once. -/
mutual
def uptoBulk {H : Type} : DataW H → Nat
  | .lit (.string bytes) => bytes.length + 1
  | .lit _ => 1
  | .nil => 1
  | .ptr d => uptoBulk d + 1
  | .slice elems spare => uptoBulkAll elems + uptoBulkAll spare + 1
  | .agg parts => uptoBulkAll parts + 1
  | .iface _ d => uptoBulk d + 1
  | .map entries => uptoBulkEntries entries + 1
  | .held _ => 1
def uptoBulkAll {H : Type} : List (DataW H) → Nat
  | [] => 0
  | d :: r => uptoBulk d + uptoBulkAll r
def uptoBulkEntries {H : Type} : List (Lit × DataW H) → Nat
  | [] => 0
  | x :: r => uptoBulkEntry x + uptoBulkEntries r
def uptoBulkEntry {H : Type} : Lit × DataW H → Nat
  | (.string bytes, d) => bytes.length + uptoBulk d + 1
  | (_, d) => uptoBulk d + 1
 end
def uptoSmall : (H : Type) → List (DataW H) → Bool := fun _ ds => decide (uptoBulkAll ds ≤ 1048576)
def OpenSpec.upto (s : _root_.Go.ChangeSpec) : _root_.Go.OpenSpec := { _root_.Go.OpenSpec.ofChange s with cond := some uptoSmall }

/-- 'laws.FnAsciiOf', WHERE WHAT IT READS IS OF BULK AT MOST 1048576: true; the input reads as it did. -/
def fnAsciiOfUptoRow : OpenClaim := { program := "ythojahknocageaa", sum := "6a451292881476a0c5b34f018010e10cfe69dd1cfd0224c87cdb9386f7241041", func := "loop.example/braille/laws.FnAsciiOf", spec := "fnAsciiOf", apart := false, narrowed := true }
def FnAsciiOfUptoSaid : Prop := fnAsciiOfUptoRow.holds Try.pinned (OpenSpec.upto fnAsciiOfSpec)

/-- 'laws.FnCellsOfAscii', WHERE WHAT IT READS IS OF BULK AT MOST 1048576: true; the input reads as it did. -/
def fnCellsOfAsciiUptoRow : OpenClaim := { program := "ythojahknocageaa", sum := "6a451292881476a0c5b34f018010e10cfe69dd1cfd0224c87cdb9386f7241041", func := "loop.example/braille/laws.FnCellsOfAscii", spec := "fnCellsOfAscii", apart := false, narrowed := true }
def FnCellsOfAsciiUptoSaid : Prop := fnCellsOfAsciiUptoRow.holds Try.pinned (OpenSpec.upto fnCellsOfAsciiSpec)

/-- 'laws.FnAsciiOfLetters', WHERE WHAT IT READS IS OF BULK AT MOST 1048576: true; the input reads as it did. -/
def fnAsciiOfLettersUptoRow : OpenClaim := { program := "ythojahknocageaa", sum := "6a451292881476a0c5b34f018010e10cfe69dd1cfd0224c87cdb9386f7241041", func := "loop.example/braille/laws.FnAsciiOfLetters", spec := "fnAsciiOfLetters", apart := false, narrowed := true }
def FnAsciiOfLettersUptoSaid : Prop := fnAsciiOfLettersUptoRow.holds Try.pinned (OpenSpec.upto fnAsciiOfLettersSpec)

/-- 'laws.FnAsciiOfParts', WHERE WHAT IT READS IS OF BULK AT MOST 1048576: true; the input reads as it did. -/
def fnAsciiOfPartsUptoRow : OpenClaim := { program := "ythojahknocageaa", sum := "6a451292881476a0c5b34f018010e10cfe69dd1cfd0224c87cdb9386f7241041", func := "loop.example/braille/laws.FnAsciiOfParts", spec := "fnAsciiOfParts", apart := false, narrowed := true }
def FnAsciiOfPartsUptoSaid : Prop := fnAsciiOfPartsUptoRow.holds Try.pinned (OpenSpec.upto fnAsciiOfPartsSpec)

/-- 'laws.FnExactAsciiOf', WHERE WHAT IT READS IS OF BULK AT MOST 1048576: true; the input reads as it did. -/
def fnExactAsciiOfUptoRow : OpenClaim := { program := "ythojahknocageaa", sum := "6a451292881476a0c5b34f018010e10cfe69dd1cfd0224c87cdb9386f7241041", func := "loop.example/braille/laws.FnExactAsciiOf", spec := "fnExactAsciiOf", apart := false, narrowed := true }
def FnExactAsciiOfUptoSaid : Prop := fnExactAsciiOfUptoRow.holds Try.pinned (OpenSpec.upto fnExactAsciiOfSpec)

/-- 'laws.FnExactCellsOfAscii', WHERE WHAT IT READS IS OF BULK AT MOST 1048576: true; the input reads as it did. -/
def fnExactCellsOfAsciiUptoRow : OpenClaim := { program := "ythojahknocageaa", sum := "6a451292881476a0c5b34f018010e10cfe69dd1cfd0224c87cdb9386f7241041", func := "loop.example/braille/laws.FnExactCellsOfAscii", spec := "fnExactCellsOfAscii", apart := false, narrowed := true }
def FnExactCellsOfAsciiUptoSaid : Prop := fnExactCellsOfAsciiUptoRow.holds Try.pinned (OpenSpec.upto fnExactCellsOfAsciiSpec)

end Rows
end Go.Proofs.Ythojahknocageaa
