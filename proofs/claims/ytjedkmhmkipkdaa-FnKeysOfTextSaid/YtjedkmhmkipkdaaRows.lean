/-
  No cell of these rows narrows 'for every input' (looked for: loops, veiled, ifaces, maps, wideKeys, modest, calm, conditions, laid).
  DERIVED. THE GIVEN ROWS OF THIS SEAT. 11 by the template 'for every input the law returns true; each argument reads behind the call as it read before'; 0 by the template 'total and deterministic' (their statements: YtjedkmhmkipkdaaTotals.lean).
  GIVEN WITH THE SEED: the statements are not yours to turn. If you find one false, say at which input.
  Laid BY PROGRAM, IN A SANDBOX (cutbox-rows.mjs): the forced cells as the released guide's own fill.sh prints them over the translation 83740746db96972d… (all of the seat's roots in one cut). By AI agents, Wed Nov 11 2026. No macro, syntax, notation, axiom, sorry.
-/
import Derived.Test.YtjedkmhmkipkdaaChecked
import GoSem.Claim
import GoSem.ClaimJoined
import GoSem.ClaimMapViews
import Derived.JoinedTies
import Derived.KernelRfl
namespace Go.Proofs.Ytjedkmhmkipkdaa
/- THE CELL 'sum', in the pinned program and in every row, IS THE sha256 OF THE DUMP (.gsa) THAT YtjedkmhmkipkdaaProg.lean LOADS. Nothing in Lean hashes anything: it is a label: what it is worth is what the hold of that sum in a sandbox is worth. -/
noncomputable def Try.pinned : Pinned := { name := "ytjedkmhmkipkdaa", sum := "83740746db96972deb37ed7e6b653c490b635c5aea576b69e89916b159a69798", checked := Try.checked }
namespace Rows
def none {H : Type} : Left H := { results := [], args := [] }

/-- 'laws.FnValidKeys': WHATEVER THE INPUT: true; the input reads as it did. -/
def fnValidKeysSpec : ChangeSpec := { name := "fnValidKeys", fn := fun _ => fun
  | [d] => { results := [.lit (.bool true)], args := [d] }
  | _ => none }
def fnValidKeysRow : OpenClaim := { program := "ytjedkmhmkipkdaa", sum := "83740746db96972deb37ed7e6b653c490b635c5aea576b69e89916b159a69798", func := "loop.example/braille/laws.FnValidKeys", spec := "fnValidKeys", apart := false }
def FnValidKeysSaid : Prop := fnValidKeysRow.holds Try.pinned (OpenSpec.ofChange fnValidKeysSpec)

/-- ITS FALSE NEIGHBOUR: 'it returns false'. Refute it at one input. -/
def fnValidKeysWrong : ChangeSpec := { name := "fnValidKeys", fn := fun _ => fun
  | [d] => { results := [.lit (.bool false)], args := [d] }
  | _ => none }
def FnValidKeysWrongFalsely : Prop := fnValidKeysRow.holds Try.pinned (OpenSpec.ofChange fnValidKeysWrong)

/-- 'laws.FnPlayKeys': WHATEVER THE INPUT: true; the input reads as it did. -/
def fnPlayKeysSpec : ChangeSpec := { name := "fnPlayKeys", fn := fun _ => fun
  | [d] => { results := [.lit (.bool true)], args := [d] }
  | _ => none }
def fnPlayKeysRow : OpenClaim := { program := "ytjedkmhmkipkdaa", sum := "83740746db96972deb37ed7e6b653c490b635c5aea576b69e89916b159a69798", func := "loop.example/braille/laws.FnPlayKeys", spec := "fnPlayKeys", apart := false }
def FnPlayKeysSaid : Prop := fnPlayKeysRow.holds Try.pinned (OpenSpec.ofChange fnPlayKeysSpec)

/-- ITS FALSE NEIGHBOUR: 'it returns false'. Refute it at one input. -/
def fnPlayKeysWrong : ChangeSpec := { name := "fnPlayKeys", fn := fun _ => fun
  | [d] => { results := [.lit (.bool false)], args := [d] }
  | _ => none }
def FnPlayKeysWrongFalsely : Prop := fnPlayKeysRow.holds Try.pinned (OpenSpec.ofChange fnPlayKeysWrong)

/-- 'laws.FnPlayKeysTwice': WHATEVER THE INPUT: true; the input reads as it did. -/
def fnPlayKeysTwiceSpec : ChangeSpec := { name := "fnPlayKeysTwice", fn := fun _ => fun
  | [d] => { results := [.lit (.bool true)], args := [d] }
  | _ => none }
def fnPlayKeysTwiceRow : OpenClaim := { program := "ytjedkmhmkipkdaa", sum := "83740746db96972deb37ed7e6b653c490b635c5aea576b69e89916b159a69798", func := "loop.example/braille/laws.FnPlayKeysTwice", spec := "fnPlayKeysTwice", apart := false }
def FnPlayKeysTwiceSaid : Prop := fnPlayKeysTwiceRow.holds Try.pinned (OpenSpec.ofChange fnPlayKeysTwiceSpec)

/-- ITS FALSE NEIGHBOUR: 'it returns false'. Refute it at one input. -/
def fnPlayKeysTwiceWrong : ChangeSpec := { name := "fnPlayKeysTwice", fn := fun _ => fun
  | [d] => { results := [.lit (.bool false)], args := [d] }
  | _ => none }
def FnPlayKeysTwiceWrongFalsely : Prop := fnPlayKeysTwiceRow.holds Try.pinned (OpenSpec.ofChange fnPlayKeysTwiceWrong)

/-- 'laws.FnPlayKeysBack': WHATEVER THE INPUT: true; the input reads as it did. -/
def fnPlayKeysBackSpec : ChangeSpec := { name := "fnPlayKeysBack", fn := fun _ => fun
  | [d] => { results := [.lit (.bool true)], args := [d] }
  | _ => none }
def fnPlayKeysBackRow : OpenClaim := { program := "ytjedkmhmkipkdaa", sum := "83740746db96972deb37ed7e6b653c490b635c5aea576b69e89916b159a69798", func := "loop.example/braille/laws.FnPlayKeysBack", spec := "fnPlayKeysBack", apart := false }
def FnPlayKeysBackSaid : Prop := fnPlayKeysBackRow.holds Try.pinned (OpenSpec.ofChange fnPlayKeysBackSpec)

/-- ITS FALSE NEIGHBOUR: 'it returns false'. Refute it at one input. -/
def fnPlayKeysBackWrong : ChangeSpec := { name := "fnPlayKeysBack", fn := fun _ => fun
  | [d] => { results := [.lit (.bool false)], args := [d] }
  | _ => none }
def FnPlayKeysBackWrongFalsely : Prop := fnPlayKeysBackRow.holds Try.pinned (OpenSpec.ofChange fnPlayKeysBackWrong)

/-- 'laws.FnKeysOf': WHATEVER THE INPUT: true; the input reads as it did. -/
def fnKeysOfSpec : ChangeSpec := { name := "fnKeysOf", fn := fun _ => fun
  | [d] => { results := [.lit (.bool true)], args := [d] }
  | _ => none }
def fnKeysOfRow : OpenClaim := { program := "ytjedkmhmkipkdaa", sum := "83740746db96972deb37ed7e6b653c490b635c5aea576b69e89916b159a69798", func := "loop.example/braille/laws.FnKeysOf", spec := "fnKeysOf", apart := false }
def FnKeysOfSaid : Prop := fnKeysOfRow.holds Try.pinned (OpenSpec.ofChange fnKeysOfSpec)

/-- ITS FALSE NEIGHBOUR: 'it returns false'. Refute it at one input. -/
def fnKeysOfWrong : ChangeSpec := { name := "fnKeysOf", fn := fun _ => fun
  | [d] => { results := [.lit (.bool false)], args := [d] }
  | _ => none }
def FnKeysOfWrongFalsely : Prop := fnKeysOfRow.holds Try.pinned (OpenSpec.ofChange fnKeysOfWrong)

/-- 'laws.FnKeysOfEach': WHATEVER THE INPUT: true; the input reads as it did. -/
def fnKeysOfEachSpec : ChangeSpec := { name := "fnKeysOfEach", fn := fun _ => fun
  | [d] => { results := [.lit (.bool true)], args := [d] }
  | _ => none }
def fnKeysOfEachRow : OpenClaim := { program := "ytjedkmhmkipkdaa", sum := "83740746db96972deb37ed7e6b653c490b635c5aea576b69e89916b159a69798", func := "loop.example/braille/laws.FnKeysOfEach", spec := "fnKeysOfEach", apart := false }
def FnKeysOfEachSaid : Prop := fnKeysOfEachRow.holds Try.pinned (OpenSpec.ofChange fnKeysOfEachSpec)

/-- ITS FALSE NEIGHBOUR: 'it returns false'. Refute it at one input. -/
def fnKeysOfEachWrong : ChangeSpec := { name := "fnKeysOfEach", fn := fun _ => fun
  | [d] => { results := [.lit (.bool false)], args := [d] }
  | _ => none }
def FnKeysOfEachWrongFalsely : Prop := fnKeysOfEachRow.holds Try.pinned (OpenSpec.ofChange fnKeysOfEachWrong)

/-- 'laws.FnKeysOfText': WHATEVER THE INPUT: true; the input reads as it did. -/
def fnKeysOfTextSpec : ChangeSpec := { name := "fnKeysOfText", fn := fun _ => fun
  | [d] => { results := [.lit (.bool true)], args := [d] }
  | _ => none }
def fnKeysOfTextRow : OpenClaim := { program := "ytjedkmhmkipkdaa", sum := "83740746db96972deb37ed7e6b653c490b635c5aea576b69e89916b159a69798", func := "loop.example/braille/laws.FnKeysOfText", spec := "fnKeysOfText", apart := false }
def FnKeysOfTextSaid : Prop := fnKeysOfTextRow.holds Try.pinned (OpenSpec.ofChange fnKeysOfTextSpec)

/-- ITS FALSE NEIGHBOUR: 'it returns false'. Refute it at one input. -/
def fnKeysOfTextWrong : ChangeSpec := { name := "fnKeysOfText", fn := fun _ => fun
  | [d] => { results := [.lit (.bool false)], args := [d] }
  | _ => none }
def FnKeysOfTextWrongFalsely : Prop := fnKeysOfTextRow.holds Try.pinned (OpenSpec.ofChange fnKeysOfTextWrong)

/-- 'laws.FnPlayKeysSpace': WHATEVER THE INPUT: true; the input reads as it did. -/
def fnPlayKeysSpaceSpec : ChangeSpec := { name := "fnPlayKeysSpace", fn := fun _ => fun
  | [d] => { results := [.lit (.bool true)], args := [d] }
  | _ => none }
def fnPlayKeysSpaceRow : OpenClaim := { program := "ytjedkmhmkipkdaa", sum := "83740746db96972deb37ed7e6b653c490b635c5aea576b69e89916b159a69798", func := "loop.example/braille/laws.FnPlayKeysSpace", spec := "fnPlayKeysSpace", apart := false }
def FnPlayKeysSpaceSaid : Prop := fnPlayKeysSpaceRow.holds Try.pinned (OpenSpec.ofChange fnPlayKeysSpaceSpec)

/-- ITS FALSE NEIGHBOUR: 'it returns false'. Refute it at one input. -/
def fnPlayKeysSpaceWrong : ChangeSpec := { name := "fnPlayKeysSpace", fn := fun _ => fun
  | [d] => { results := [.lit (.bool false)], args := [d] }
  | _ => none }
def FnPlayKeysSpaceWrongFalsely : Prop := fnPlayKeysSpaceRow.holds Try.pinned (OpenSpec.ofChange fnPlayKeysSpaceWrong)

/-- 'laws.FnExactValidKeys': WHATEVER THE INPUT: true; the input reads as it did. -/
def fnExactValidKeysSpec : ChangeSpec := { name := "fnExactValidKeys", fn := fun _ => fun
  | [d] => { results := [.lit (.bool true)], args := [d] }
  | _ => none }
def fnExactValidKeysRow : OpenClaim := { program := "ytjedkmhmkipkdaa", sum := "83740746db96972deb37ed7e6b653c490b635c5aea576b69e89916b159a69798", func := "loop.example/braille/laws.FnExactValidKeys", spec := "fnExactValidKeys", apart := false }
def FnExactValidKeysSaid : Prop := fnExactValidKeysRow.holds Try.pinned (OpenSpec.ofChange fnExactValidKeysSpec)

/-- ITS FALSE NEIGHBOUR: 'it returns false'. Refute it at one input. -/
def fnExactValidKeysWrong : ChangeSpec := { name := "fnExactValidKeys", fn := fun _ => fun
  | [d] => { results := [.lit (.bool false)], args := [d] }
  | _ => none }
def FnExactValidKeysWrongFalsely : Prop := fnExactValidKeysRow.holds Try.pinned (OpenSpec.ofChange fnExactValidKeysWrong)

/-- 'laws.FnExactPlayKeys': WHATEVER THE INPUT: true; the input reads as it did. -/
def fnExactPlayKeysSpec : ChangeSpec := { name := "fnExactPlayKeys", fn := fun _ => fun
  | [d] => { results := [.lit (.bool true)], args := [d] }
  | _ => none }
def fnExactPlayKeysRow : OpenClaim := { program := "ytjedkmhmkipkdaa", sum := "83740746db96972deb37ed7e6b653c490b635c5aea576b69e89916b159a69798", func := "loop.example/braille/laws.FnExactPlayKeys", spec := "fnExactPlayKeys", apart := false }
def FnExactPlayKeysSaid : Prop := fnExactPlayKeysRow.holds Try.pinned (OpenSpec.ofChange fnExactPlayKeysSpec)

/-- ITS FALSE NEIGHBOUR: 'it returns false'. Refute it at one input. -/
def fnExactPlayKeysWrong : ChangeSpec := { name := "fnExactPlayKeys", fn := fun _ => fun
  | [d] => { results := [.lit (.bool false)], args := [d] }
  | _ => none }
def FnExactPlayKeysWrongFalsely : Prop := fnExactPlayKeysRow.holds Try.pinned (OpenSpec.ofChange fnExactPlayKeysWrong)

/-- 'laws.FnExactKeysOf': WHATEVER THE INPUT: true; the input reads as it did. -/
def fnExactKeysOfSpec : ChangeSpec := { name := "fnExactKeysOf", fn := fun _ => fun
  | [d] => { results := [.lit (.bool true)], args := [d] }
  | _ => none }
def fnExactKeysOfRow : OpenClaim := { program := "ytjedkmhmkipkdaa", sum := "83740746db96972deb37ed7e6b653c490b635c5aea576b69e89916b159a69798", func := "loop.example/braille/laws.FnExactKeysOf", spec := "fnExactKeysOf", apart := false }
def FnExactKeysOfSaid : Prop := fnExactKeysOfRow.holds Try.pinned (OpenSpec.ofChange fnExactKeysOfSpec)

/-- ITS FALSE NEIGHBOUR: 'it returns false'. Refute it at one input. -/
def fnExactKeysOfWrong : ChangeSpec := { name := "fnExactKeysOf", fn := fun _ => fun
  | [d] => { results := [.lit (.bool false)], args := [d] }
  | _ => none }
def FnExactKeysOfWrongFalsely : Prop := fnExactKeysOfRow.holds Try.pinned (OpenSpec.ofChange fnExactKeysOfWrong)

/- THE SECOND FORM. 'bulk': how many values and letters a reading holds, each counted each time it is reached (what is shared counts as often as it is met; a slice's spare places count too). A statement '..UptoSaid' is the law's where the arguments, and the package variables that the reading takes, are together of bulk at most 1048576: NARROWER than '..Said'. Prove '..Said' where nothing that the law and all that it calls make is longer than what came in: it says more and counts as full. Else prove '..UptoSaid'. A law counts once. -/
mutual
def uptoBulk {H : Type} : DataW H → Nat
  | .lit (.string bytes) => bytes.length + 1
  | .lit _ => 1
  | .nil => 1
  | .ptr d => uptoBulk d + 1
  | .slice elems spare => uptoBulkAll elems + uptoBulkAll spare + 1
  | .agg parts => uptoBulkAll parts + 1
  | .iface _ d => uptoBulk d + 1
  | .map entries => uptoBulkEntries entries + 1
  | .held _ => 1
def uptoBulkAll {H : Type} : List (DataW H) → Nat
  | [] => 0
  | d :: r => uptoBulk d + uptoBulkAll r
def uptoBulkEntries {H : Type} : List (Lit × DataW H) → Nat
  | [] => 0
  | x :: r => uptoBulkEntry x + uptoBulkEntries r
def uptoBulkEntry {H : Type} : Lit × DataW H → Nat
  | (.string bytes, d) => bytes.length + uptoBulk d + 1
  | (_, d) => uptoBulk d + 1
 end
def uptoSmall : (H : Type) → List (DataW H) → Bool := fun _ ds => decide (uptoBulkAll ds ≤ 1048576)
def OpenSpec.upto (s : _root_.Go.ChangeSpec) : _root_.Go.OpenSpec := { _root_.Go.OpenSpec.ofChange s with cond := some uptoSmall }

/-- 'laws.FnValidKeys', WHERE WHAT IT READS IS OF BULK AT MOST 1048576: true; the input reads as it did. -/
def fnValidKeysUptoRow : OpenClaim := { program := "ytjedkmhmkipkdaa", sum := "83740746db96972deb37ed7e6b653c490b635c5aea576b69e89916b159a69798", func := "loop.example/braille/laws.FnValidKeys", spec := "fnValidKeys", apart := false, narrowed := true }
def FnValidKeysUptoSaid : Prop := fnValidKeysUptoRow.holds Try.pinned (OpenSpec.upto fnValidKeysSpec)

/-- 'laws.FnPlayKeys', WHERE WHAT IT READS IS OF BULK AT MOST 1048576: true; the input reads as it did. -/
def fnPlayKeysUptoRow : OpenClaim := { program := "ytjedkmhmkipkdaa", sum := "83740746db96972deb37ed7e6b653c490b635c5aea576b69e89916b159a69798", func := "loop.example/braille/laws.FnPlayKeys", spec := "fnPlayKeys", apart := false, narrowed := true }
def FnPlayKeysUptoSaid : Prop := fnPlayKeysUptoRow.holds Try.pinned (OpenSpec.upto fnPlayKeysSpec)

/-- 'laws.FnPlayKeysTwice', WHERE WHAT IT READS IS OF BULK AT MOST 1048576: true; the input reads as it did. -/
def fnPlayKeysTwiceUptoRow : OpenClaim := { program := "ytjedkmhmkipkdaa", sum := "83740746db96972deb37ed7e6b653c490b635c5aea576b69e89916b159a69798", func := "loop.example/braille/laws.FnPlayKeysTwice", spec := "fnPlayKeysTwice", apart := false, narrowed := true }
def FnPlayKeysTwiceUptoSaid : Prop := fnPlayKeysTwiceUptoRow.holds Try.pinned (OpenSpec.upto fnPlayKeysTwiceSpec)

/-- 'laws.FnPlayKeysBack', WHERE WHAT IT READS IS OF BULK AT MOST 1048576: true; the input reads as it did. -/
def fnPlayKeysBackUptoRow : OpenClaim := { program := "ytjedkmhmkipkdaa", sum := "83740746db96972deb37ed7e6b653c490b635c5aea576b69e89916b159a69798", func := "loop.example/braille/laws.FnPlayKeysBack", spec := "fnPlayKeysBack", apart := false, narrowed := true }
def FnPlayKeysBackUptoSaid : Prop := fnPlayKeysBackUptoRow.holds Try.pinned (OpenSpec.upto fnPlayKeysBackSpec)

/-- 'laws.FnKeysOf', WHERE WHAT IT READS IS OF BULK AT MOST 1048576: true; the input reads as it did. -/
def fnKeysOfUptoRow : OpenClaim := { program := "ytjedkmhmkipkdaa", sum := "83740746db96972deb37ed7e6b653c490b635c5aea576b69e89916b159a69798", func := "loop.example/braille/laws.FnKeysOf", spec := "fnKeysOf", apart := false, narrowed := true }
def FnKeysOfUptoSaid : Prop := fnKeysOfUptoRow.holds Try.pinned (OpenSpec.upto fnKeysOfSpec)

/-- 'laws.FnKeysOfEach', WHERE WHAT IT READS IS OF BULK AT MOST 1048576: true; the input reads as it did. -/
def fnKeysOfEachUptoRow : OpenClaim := { program := "ytjedkmhmkipkdaa", sum := "83740746db96972deb37ed7e6b653c490b635c5aea576b69e89916b159a69798", func := "loop.example/braille/laws.FnKeysOfEach", spec := "fnKeysOfEach", apart := false, narrowed := true }
def FnKeysOfEachUptoSaid : Prop := fnKeysOfEachUptoRow.holds Try.pinned (OpenSpec.upto fnKeysOfEachSpec)

/-- 'laws.FnKeysOfText', WHERE WHAT IT READS IS OF BULK AT MOST 1048576: true; the input reads as it did. -/
def fnKeysOfTextUptoRow : OpenClaim := { program := "ytjedkmhmkipkdaa", sum := "83740746db96972deb37ed7e6b653c490b635c5aea576b69e89916b159a69798", func := "loop.example/braille/laws.FnKeysOfText", spec := "fnKeysOfText", apart := false, narrowed := true }
def FnKeysOfTextUptoSaid : Prop := fnKeysOfTextUptoRow.holds Try.pinned (OpenSpec.upto fnKeysOfTextSpec)

/-- 'laws.FnPlayKeysSpace', WHERE WHAT IT READS IS OF BULK AT MOST 1048576: true; the input reads as it did. -/
def fnPlayKeysSpaceUptoRow : OpenClaim := { program := "ytjedkmhmkipkdaa", sum := "83740746db96972deb37ed7e6b653c490b635c5aea576b69e89916b159a69798", func := "loop.example/braille/laws.FnPlayKeysSpace", spec := "fnPlayKeysSpace", apart := false, narrowed := true }
def FnPlayKeysSpaceUptoSaid : Prop := fnPlayKeysSpaceUptoRow.holds Try.pinned (OpenSpec.upto fnPlayKeysSpaceSpec)

/-- 'laws.FnExactValidKeys', WHERE WHAT IT READS IS OF BULK AT MOST 1048576: true; the input reads as it did. -/
def fnExactValidKeysUptoRow : OpenClaim := { program := "ytjedkmhmkipkdaa", sum := "83740746db96972deb37ed7e6b653c490b635c5aea576b69e89916b159a69798", func := "loop.example/braille/laws.FnExactValidKeys", spec := "fnExactValidKeys", apart := false, narrowed := true }
def FnExactValidKeysUptoSaid : Prop := fnExactValidKeysUptoRow.holds Try.pinned (OpenSpec.upto fnExactValidKeysSpec)

/-- 'laws.FnExactPlayKeys', WHERE WHAT IT READS IS OF BULK AT MOST 1048576: true; the input reads as it did. -/
def fnExactPlayKeysUptoRow : OpenClaim := { program := "ytjedkmhmkipkdaa", sum := "83740746db96972deb37ed7e6b653c490b635c5aea576b69e89916b159a69798", func := "loop.example/braille/laws.FnExactPlayKeys", spec := "fnExactPlayKeys", apart := false, narrowed := true }
def FnExactPlayKeysUptoSaid : Prop := fnExactPlayKeysUptoRow.holds Try.pinned (OpenSpec.upto fnExactPlayKeysSpec)

/-- 'laws.FnExactKeysOf', WHERE WHAT IT READS IS OF BULK AT MOST 1048576: true; the input reads as it did. -/
def fnExactKeysOfUptoRow : OpenClaim := { program := "ytjedkmhmkipkdaa", sum := "83740746db96972deb37ed7e6b653c490b635c5aea576b69e89916b159a69798", func := "loop.example/braille/laws.FnExactKeysOf", spec := "fnExactKeysOf", apart := false, narrowed := true }
def FnExactKeysOfUptoSaid : Prop := fnExactKeysOfUptoRow.holds Try.pinned (OpenSpec.upto fnExactKeysOfSpec)

end Rows
end Go.Proofs.Ytjedkmhmkipkdaa
